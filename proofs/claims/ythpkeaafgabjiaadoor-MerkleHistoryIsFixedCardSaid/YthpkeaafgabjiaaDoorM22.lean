/- RegC; RegD; RegE: what each of these parts proves stands ahead of it. -/
import Derived.Test.YthpkeaafgabjiaaDoorZBase
import Derived.RegionTactic
import Derived.Deep.MidRow
/- A region that draws its order, walked operation by operation over a class of worlds: an operation that only reads, and reads the same in every world of the class, may be taken first. No condition but those that are named. -/
namespace Go.Proofs.YthpkeaafgabjiaaDoor
open Go.RowKit
namespace RegC
section
variable {P : Program} {ops : Array Oper} {Q : Exit → Act → World → Prop} {md : Region.Mode} {C : World → Prop} {T : List Nat}

/-- Every order, where the class is kept by all operations but those that T names. -/
def anyT (P : Program) (md : Region.Mode) (ops : Array Oper) (Q : Exit → Act → World → Prop) (C : World → Prop) (T : List Nat) : Nat → Array Bool → Act → World → Prop
  | 0, listed, a, w => Region.ready md ops listed = [] ∧ Q .normal a w
  | fuel + 1, listed, a, w =>
    (Region.ready md ops listed = [] → Q .normal a w) ∧
    ∀ i ∈ Region.ready md ops listed, wpOp P ops Q i (fun a' w' => (T.contains i = false → C w') ∧ anyT P md ops Q C T fuel (listed.setIfInBounds i true) a' w') a w
theorem any_of_anyT : ∀ (fuel : Nat) (listed : Array Bool) (a : Act) (w : World), anyT P md ops Q C T fuel listed a w → wpAny P md ops Q fuel listed a w
  | 0, _, _, _, h => h
  | fuel + 1, _, _, _, h => ⟨h.1, fun i hi => wpOp_mono (fun a' w' h2 => any_of_anyT fuel _ a' w' h2.2) (h.2 i hi)⟩
/-- Where the operations that T names alone are left, nothing is asked of the class. -/
theorem anyT_of_any : ∀ (fuel : Nat) (listed : Array Bool) (a : Act) (w : World), (∀ i, T.contains i = false → i < ops.size → listed.getD i false = true) → wpAny P md ops Q fuel listed a w → anyT P md ops Q C T fuel listed a w
  | 0, _, _, _, _, h => h
  | fuel + 1, listed, _, _, hl, h => ⟨h.1, fun i hi => by
    obtain ⟨hun, o, ho, _⟩ := mem_ready.1 hi
    have hlt := (Array.getElem?_eq_some_iff.1 ho).1
    have hiT : ¬ T.contains i = false := fun hT => by
      have h1 := hl i hT hlt
      rcases Nat.lt_or_ge i listed.size with h' | h'
      · simp [h'] at hun h1
        rw [hun] at h1
        cases h1
      · simp [Array.getElem?_eq_none h'] at h1
    exact wpOp_mono (fun a' w' h2 => ⟨fun h3 => absurd h3 hiT, anyT_of_any fuel _ a' w' (fun j hj hjs => getD_set_true (hl j hj hjs)) h2⟩) (h.2 i hi)⟩
/-- The operation yields the value in every world of the class, and leaves the world as it is. -/
def YieldsC (P : Program) (ops : Array Oper) (C : World → Prop) (o : Oper) (v : Value) (a : Act) : Prop :=
  (Region.wanted o (yielded ops a.tmps) = true ∧ ∀ w, C w → (execOp a.eval o).run P w = .ok (.value v) w) ∨
  (Region.wanted o (yielded ops a.tmps) = false ∧ v = undef)
theorem YieldsC.wpOp {i : Nat} {o : Oper} {v : Value} {a : Act} (hi : ops[i]? = some o) (hy : YieldsC P ops C o v a)
    {K : Act → World → Prop} {w : World} (hC : C w) (h : K (a.put o.dst v) w) : wpOp P ops Q i K a w := by
  unfold Go.wpOp
  simp only [hi]
  rcases hy with ⟨hw, hv⟩ | ⟨hw, rfl⟩
  · simp only [hw, if_true, Oper.wp, hv w hC, Oper.upon]; exact .inl h
  · simp only [hw, Bool.false_eq_true, if_false]; exact h
theorem YieldsC.of_same {o : Oper} {v : Value} {a a' : Act} (hy : YieldsC P ops C o v a) (he : execOp a'.eval o = execOp a.eval o)
    (hw : Region.wanted o (yielded ops a'.tmps) = Region.wanted o (yielded ops a.tmps)) : YieldsC P ops C o v a' := by
  unfold YieldsC at *
  rw [he, hw]
  exact hy
theorem wpOp_putC {j : Nat} {oi oj : Oper} {v : Value} (hj : ops[j]? = some oj) (hap : oi.apart ops oj = true)
    (hsi : ∀ cs b, oi.op ≠ .select cs b) (hsj : ∀ cs b, oj.op ≠ .select cs b)
    (hQ : ∀ c a w, Q (.panic c) (a.put oi.dst v) w → Q (.panic c) a w) {K : Act → World → Prop} {a : Act} {w : World}
    (hy : YieldsC P ops C oi v a) (h : wpOp P ops Q j K (a.put oi.dst v) w) :
    wpOp P ops Q j (fun a' w' => YieldsC P ops C oi v a' ∧ K (a'.put oi.dst v) w') a w := by
  obtain ⟨h1, h2, h3⟩ := Oper.apart_spec hap
  have keep : ∀ (a : Act), YieldsC P ops C oi v a → ∀ u, YieldsC P ops C oi v (a.put oj.dst u) := fun a hy u =>
    hy.of_same (execOp_put oi hsi a oj.dst u h3) (wanted_put oi a oj.dst u h3)
  have keepD : ∀ d, YieldsC P ops C oi v { a with defers := d :: a.defers } := fun d => hy.of_same rfl rfl
  unfold Go.wpOp at *
  simp only [hj] at *
  rw [wanted_put oj a oi.dst v h1] at h
  split
  · rename_i hw
    simp only [hw, if_true] at h
    rcases h with h | ⟨hasks, hlets⟩
    case inr => exact .inr ⟨by unfold Oper.asks at *; rw [execOp_put oj hsj a oi.dst v h1] at hasks; exact hasks, hlets⟩
    refine .inl ?_
    unfold Oper.wp at *
    rw [execOp_put oj hsj a oi.dst v h1] at h
    generalize (execOp a.eval oj).run P w = r at *
    cases r with
    | ok n w' =>
      cases n <;> simp only [Oper.upon] at h ⊢
      case value u => exact ⟨keep a hy u, by rw [← Act.put_comm a v u h2]; exact h⟩
      case skip => exact ⟨keep a hy _, by rw [← Act.put_comm a v undef h2]; exact h⟩
      case defer d =>
        refine ⟨keep _ (keepD d) _, ?_⟩
        rw [← Act.put_comm _ v undef h2, ← Act.put_defers]
        exact h
      case enter f args =>
        refine Calls.mono h fun e w'' he => ?_
        cases e with
        | returned u => exact ⟨keep a hy u, by rw [← Act.put_comm a v u h2]; exact he⟩
        | panicked c => exact hQ _ _ _ he
        | outgrown => exact he
      case row row args => exact Rows.mono h fun u w'' he => ⟨keep a hy u, by rw [← Act.put_comm a v u h2]; exact he⟩
    | halt x w' =>
      cases x <;> simp only [Oper.upon] at h ⊢
      case panic u => exact hQ _ _ _ h
  · rename_i hw
    simp only [hw] at h
    exact ⟨keep a hy _, by rw [← Act.put_comm a v undef h2]; exact h⟩
/-- What is listed has all that it waits for listed. -/
def Closed (md : Region.Mode) (ops : Array Oper) (listed : Array Bool) : Prop := ∀ j oj, ops[j]? = some oj → listed.getD j false = true → ∀ e ∈ oj.after, Region.binds md e = true → listed.getD e.on false = true
def closedB (md : Region.Mode) (ops : Array Oper) (listed : Array Bool) : Bool :=
  (List.range ops.size).all fun j => !listed.getD j false || match ops[j]? with
    | some o => o.after.all fun e => !Region.binds md e || listed.getD e.on false
    | none => true
theorem closed_of {listed : Array Bool} (h : closedB md ops listed = true) : Closed md ops listed := fun j oj hj hl e he hb => by
  unfold closedB at h
  rw [List.all_eq_true] at h
  have h1 := h j (List.mem_range.2 (Array.getElem?_eq_some_iff.1 hj).1)
  simp only [hj, hl, Bool.not_true, Bool.false_or] at h1
  have h2 := Array.all_eq_true_iff_forall_mem.1 h1 e he
  simpa [hb] using h2
theorem Closed.set {listed : Array Bool} {i : Nat} (h : Closed md ops listed) (hi : i ∈ Region.ready md ops listed) : Closed md ops (listed.setIfInBounds i true) := fun j oj hj hl e he hb => by
  obtain ⟨_, o, ho, hall⟩ := mem_ready.1 hi
  by_cases hji : i = j
  · subst hji
    obtain rfl := Option.some.inj (ho.symm.trans hj)
    exact getD_set_true (hall e he hb)
  · rw [getD_set_ne false hji] at hl
    exact getD_set_true (h j oj hj hl e he hb)
/-- j waits for i, if need be by way of others. -/
def depB (md : Region.Mode) (ops : Array Oper) (i : Nat) : Nat → Nat → Bool
  | 0, _ => false
  | f + 1, j => match ops[j]? with
    | some o => o.after.any fun e => Region.binds md e && (e.on == i || depB md ops i f e.on)
    | none => false
theorem dep_spec {i : Nat} {listed : Array Bool} (h : Closed md ops listed) : ∀ (f j : Nat), depB md ops i f j = true → (∀ o, ops[j]? = some o → ∀ e ∈ o.after, Region.binds md e = true → listed.getD e.on false = true) → listed.getD i false = true
  | 0, _, hd, _ => by cases hd
  | f + 1, j, hd, hr => by
    unfold depB at hd
    cases ho : ops[j]? with
    | none => simp [ho] at hd
    | some o =>
      simp only [ho] at hd
      obtain ⟨e, he, hb⟩ := Array.any_eq_true'.1 hd
      simp only [Bool.and_eq_true, Bool.or_eq_true, beq_iff_eq] at hb
      have hl := hr o ho e he hb.1
      rcases hb.2 with h1 | h1
      · rw [← h1]; exact hl
      · exact dep_spec h f e.on h1 (fun o2 ho2 e2 he2 hb2 => h e.on o2 ho2 hl e2 he2 hb2)
/-- All operations that T names wait for i. -/
def waitB (md : Region.Mode) (ops : Array Oper) (T : List Nat) (i : Nat) : Bool := T.all fun t => depB md ops i ops.size t
theorem anyT_first {i : Nat} {oi : Oper} {v : Value} (hi : ops[i]? = some oi) (hsel : ∀ (j : Nat) (o : Oper) cs b, ops[j]? = some o → o.op ≠ .select cs b)
    (hQ : ∀ c a w, Q (.panic c) (a.put oi.dst v) w → Q (.panic c) a w) (hT : waitB md ops T i = true) :
    ∀ (fuel : Nat) (listed : Array Bool) (a : Act) (w : World), Closed md ops listed →
      (∀ j oj, ops[j]? = some oj → j ≠ i → listed.getD j true = false → (∀ e ∈ oj.after, Region.binds md e = true → e.on ≠ i) → oi.apart ops oj = true) →
      i ∈ Region.ready md ops listed → YieldsC P ops C oi v a → C w →
      anyT P md ops Q C T fuel (listed.setIfInBounds i true) (a.put oi.dst v) w → anyT P md ops Q C T (fuel + 1) listed a w := by
  intro fuel
  induction fuel with
  | zero =>
    intro listed a w _ _ hr hy hC H
    refine ⟨fun h => (by rw [h] at hr; cases hr), fun j hj => ?_⟩
    by_cases hji : j = i
    · subst hji; exact hy.wpOp hi hC ⟨fun _ => hC, H⟩
    · have := ready_mono hj hji
      rw [H.1] at this
      cases this
  | succ fuel ih =>
    intro listed a w hcl hfree hr hy hC H
    refine ⟨fun h => (by rw [h] at hr; cases hr), fun j hj => ?_⟩
    by_cases hji : j = i
    · subst hji; exact hy.wpOp hi hC ⟨fun _ => hC, H⟩
    · have h1 := H.2 j (ready_mono hj hji)
      obtain ⟨hjun, oj, hoj, hall⟩ := mem_ready.1 hj
      have hnot : ∀ e ∈ oj.after, Region.binds md e = true → e.on ≠ i := fun e he hb heq => by
        have h1 := hall e he hb
        have h0 := (mem_ready.1 hr).1
        rw [heq] at h1
        rcases Nat.lt_or_ge i listed.size with h' | h'
        · simp [h'] at h0 h1; rw [h0] at h1; cases h1
        · simp [Array.getElem?_eq_none h'] at h1
      have hjT : T.contains j = false := by
        cases hc : T.contains j with
        | false => rfl
        | true =>
          have hd := List.all_eq_true.1 hT j (by simpa using hc)
          have hli := dep_spec hcl _ j hd (fun o2 ho2 e2 he2 hb2 => by
            obtain rfl := Option.some.inj (hoj.symm.trans ho2)
            exact hall e2 he2 hb2)
          have h0 := (mem_ready.1 hr).1
          rcases Nat.lt_or_ge i listed.size with h' | h'
          · simp [h'] at h0 hli; rw [h0] at hli; cases hli
          · simp [Array.getElem?_eq_none h'] at hli
      have h2 := wpOp_putC hoj (hfree j oj hoj hji hjun hnot) (fun cs b => hsel i oi cs b hi) (fun cs b => hsel j oj cs b hoj) hQ hy h1
      have hfree' : ∀ k ok, ops[k]? = some ok → k ≠ i → (listed.setIfInBounds j true).getD k true = false →
          (∀ e ∈ ok.after, Region.binds md e = true → e.on ≠ i) → oi.apart ops ok = true := fun k ok hk hki hun hno => by
        refine hfree k ok hk hki ?_ hno
        by_cases hjk : j = k
        · subst hjk; exact hjun
        · rw [getD_set_ne true hjk] at hun; exact hun
      refine wpOp_mono (fun a' w' h3 => ⟨fun _ => h3.2.1 hjT, ih (listed.setIfInBounds j true) a' w' (hcl.set hj) hfree' (ready_mono hr (Ne.symm hji)) h3.1 (h3.2.1 hjT) ?_⟩) h2
      rw [Array.setIfInBounds_comm _ _ hji]
      exact h3.2.2
theorem anyT_firstW {i : Nat} {oi : Oper} {v : Value} (hi : ops[i]? = some oi) (hsel : ∀ (j : Nat) (o : Oper) cs b, ops[j]? = some o → o.op ≠ .select cs b)
    (hQ : ∀ c a w, Q (.panic c) (a.put oi.dst v) w → Q (.panic c) a w) (hX : T.contains i = true) :
    ∀ (fuel : Nat) (listed : Array Bool) (a : Act) (w : World),
      (∀ j oj, ops[j]? = some oj → j ≠ i → listed.getD j true = false → (∀ e ∈ oj.after, Region.binds md e = true → e.on ≠ i) → oi.apart ops oj = true) →
      i ∈ Region.ready md ops listed → Yields P ops oi v a →
      anyT P md ops Q C T fuel (listed.setIfInBounds i true) (a.put oi.dst v) w → anyT P md ops Q C T (fuel + 1) listed a w := by
  intro fuel
  induction fuel with
  | zero =>
    intro listed a w _ hr hy H
    refine ⟨fun h => (by rw [h] at hr; cases hr), fun j hj => ?_⟩
    by_cases hji : j = i
    · subst hji; exact hy.wpOp hi ⟨fun h => (by rw [hX] at h; cases h), H⟩
    · have := ready_mono hj hji
      rw [H.1] at this
      cases this
  | succ fuel ih =>
    intro listed a w hfree hr hy H
    refine ⟨fun h => (by rw [h] at hr; cases hr), fun j hj => ?_⟩
    by_cases hji : j = i
    · subst hji; exact hy.wpOp hi ⟨fun h => (by rw [hX] at h; cases h), H⟩
    · have h1 := H.2 j (ready_mono hj hji)
      obtain ⟨hjun, oj, hoj, hall⟩ := mem_ready.1 hj
      have hnot : ∀ e ∈ oj.after, Region.binds md e = true → e.on ≠ i := fun e he hb heq => by
        have h1 := hall e he hb
        have h0 := (mem_ready.1 hr).1
        rw [heq] at h1
        rcases Nat.lt_or_ge i listed.size with h' | h'
        · simp [h'] at h0 h1; rw [h0] at h1; cases h1
        · simp [Array.getElem?_eq_none h'] at h1
      have h2 := wpOp_put hoj (hfree j oj hoj hji hjun hnot) (fun cs b => hsel i oi cs b hi) (fun cs b => hsel j oj cs b hoj) hQ hy h1
      have hfree' : ∀ k ok, ops[k]? = some ok → k ≠ i → (listed.setIfInBounds j true).getD k true = false →
          (∀ e ∈ ok.after, Region.binds md e = true → e.on ≠ i) → oi.apart ops ok = true := fun k ok hk hki hun hno => by
        refine hfree k ok hk hki ?_ hno
        by_cases hjk : j = k
        · subst hjk; exact hjun
        · rw [getD_set_ne true hjk] at hun; exact hun
      refine wpOp_mono (fun a' w' h3 => ⟨h3.2.1, ih (listed.setIfInBounds j true) a' w' hfree' (ready_mono hr (Ne.symm hji)) h3.1 ?_⟩) h2
      rw [Array.setIfInBounds_comm _ _ hji]
      exact h3.2.2
/-- An operation that looks at no world, and that T names, is taken first. -/
theorem takeW {i : Nat} {oi : Oper} {v : Value} {fuel : Nat} {listed : Array Bool} {a : Act} {w : World} (hi : ops[i]? = some oi)
    (hs : Region.noSelect ops = true) (hf : Region.free md ops listed i = true) (hr : (Region.ready md ops listed).contains i = true) (hX : T.contains i = true)
    (hQ : ∀ c a w, Q (.panic c) (a.put oi.dst v) w → Q (.panic c) a w) (hy : Yields P ops oi v a)
    (h : anyT P md ops Q C T fuel (listed.setIfInBounds i true) (a.put oi.dst v) w) : anyT P md ops Q C T (fuel + 1) listed a w :=
  anyT_firstW hi (Region.noSelect_spec hs) hQ hX fuel listed a w (Region.free_spec hi hf) (by simpa using hr) hy h
/-- An operation that only reads is taken first. -/
theorem take {i : Nat} {oi : Oper} {v : Value} {fuel : Nat} {listed : Array Bool} {a : Act} {w : World} (hi : ops[i]? = some oi)
    (hs : Region.noSelect ops = true) (hf : Region.free md ops listed i = true) (hr : (Region.ready md ops listed).contains i = true) (hT : waitB md ops T i = true) (hcl : closedB md ops listed = true)
    (hQ : ∀ c a w, Q (.panic c) (a.put oi.dst v) w → Q (.panic c) a w) (hy : YieldsC P ops C oi v a) (hC : C w)
    (h : anyT P md ops Q C T fuel (listed.setIfInBounds i true) (a.put oi.dst v) w) : anyT P md ops Q C T (fuel + 1) listed a w :=
  anyT_first hi (Region.noSelect_spec hs) hQ hT fuel listed a w (closed_of hcl) (Region.free_spec hi hf) (by simpa using hr) hy hC h
/-- Those that are ready, one after the other. -/
def AllT (P : Program) (md : Region.Mode) (ops : Array Oper) (Q : Exit → Act → World → Prop) (C : World → Prop) (T : List Nat) (fuel : Nat) (listed : Array Bool) (a : Act) (w : World) : List Nat → Prop
  | [] => True
  | i :: is => wpOp P ops Q i (fun a' w' => (T.contains i = false → C w') ∧ anyT P md ops Q C T fuel (listed.setIfInBounds i true) a' w') a w ∧ AllT P md ops Q C T fuel listed a w is
theorem allT_mem {fuel : Nat} {listed : Array Bool} {a : Act} {w : World} : ∀ (rs : List Nat), AllT P md ops Q C T fuel listed a w rs → ∀ i ∈ rs, wpOp P ops Q i (fun a' w' => (T.contains i = false → C w') ∧ anyT P md ops Q C T fuel (listed.setIfInBounds i true) a' w') a w
  | [], _, i, hi => by cases hi
  | j :: js, h, i, hi => by
    rcases List.mem_cons.1 hi with rfl | hi
    · exact h.1
    · exact allT_mem js h.2 i hi
theorem ready {rs : List Nat} {fuel : Nat} {listed : Array Bool} {a : Act} {w : World} (hr : Region.ready md ops listed = rs) (hne : rs ≠ [])
    (h : AllT P md ops Q C T fuel listed a w rs) : anyT P md ops Q C T (fuel + 1) listed a w :=
  ⟨fun h0 => absurd (hr ▸ h0) hne, fun i hi => allT_mem rs h i (hr ▸ hi)⟩
theorem nil {fuel : Nat} {listed : Array Bool} {a : Act} {w : World} : AllT P md ops Q C T fuel listed a w [] := trivial
theorem cons {i : Nat} {o : Oper} {fuel : Nat} {listed : Array Bool} {a : Act} {w : World} {rs : List Nat} (ho : ops[i]? = some o)
    (h : ∀ K' : Act → World → Prop, (∀ a' w', ((T.contains i = false → C w') ∧ anyT P md ops Q C T fuel (listed.setIfInBounds i true) a' w') → K' a' w') → if Region.wanted o (yielded ops a.tmps) = true then Oper.wp P o a w K' Q else K' (a.put o.dst undef) w)
    (hs : AllT P md ops Q C T fuel listed a w rs) : AllT P md ops Q C T fuel listed a w (i :: rs) := ⟨wpOp_step ho h, hs⟩
/-- Where the operations that T names alone are left. -/
theorem rest {fuel : Nat} {listed : Array Bool} {a : Act} {w : World} (hl : ((List.range ops.size).all fun i => T.contains i || listed.getD i false) = true) (h : wpAny P md ops Q fuel listed a w) : anyT P md ops Q C T fuel listed a w :=
  anyT_of_any fuel listed a w (fun i hi hs => by
    have := List.all_eq_true.1 hl i (List.mem_range.2 hs)
    rwa [hi, Bool.false_or] at this) h
theorem region {id : Nat} {a : Act} {w : World} {l : List Oper} (C : World → Prop) (T : List Nat) (hm : P.follows .mixedOrders = true)
    (h : anyT P .any l.toArray Q C T l.toArray.size (Array.replicate l.toArray.size false) a w.drew) : (Code.region id l.toArray true).wp P Q a w :=
  wp_region_any hm (any_of_anyT _ _ _ _ h)
end
end RegC
end Go.Proofs.YthpkeaafgabjiaaDoor

/- A region that draws its order, over a class of worlds: the one operation that is ready is taken; rows are loaded and stored; the end. No condition but those that are named. -/
namespace Go.Proofs.YthpkeaafgabjiaaDoor
open Go.RowKit
namespace RegC
section
variable {P : Program} {ops : Array Oper} {Q : Exit → Act → World → Prop} {md : Region.Mode} {C : World → Prop} {T : List Nat} {fuel : Nat} {listed : Array Bool} {a : Act} {w : World}
theorem exec_rowC {ρ : Operand → Value} {o : Oper} {W : World} (ty : TypeId) (x : Operand) (ho : o.op = .load ty x) (b off : Nat) (hx : ρ x = .pointer (some ⟨b, off, none⟩)) (cs : List Value) (d : TypeDesc) (hc : W.rangeAt b off cs)
    (hu : P.underlying ty = some d) (hd : d.isRow = true) (hi : (P.info? ty).map (·.size) = some cs.length) : (execOp ρ o).run P W = .ok (.value (.agg cs.toArray)) W := by
  have hl := run_loadVar_mid (P := P) W b off ty cs d hc hu hd hi
  unfold execOp
  simp only [ho, hx, Instr.loadAt, Instr.sureAddr, Sem.run_bind, Sem.run_pure, Result.andThen_ok, hl]
/-- The one that is ready. -/
theorem one {o : Oper} (i : Nat) (hr : Region.ready md ops listed = [i]) (ho : ops[i]? = some o) (hgd : o.guard = none)
    (h : ∀ K : Act → World → Prop, (∀ a' w', ((T.contains i = false → C w') ∧ anyT P md ops Q C T fuel (listed.setIfInBounds i true) a' w') → K a' w') → o.wp P a w K Q) : anyT P md ops Q C T (fuel + 1) listed a w :=
  ready hr (by simp) (cons ho (fun K hK => by rw [if_pos (by simp [Region.wanted, hgd])]; exact h K hK) nil)
/-- A row is stored. -/
theorem store1 {o : Oper} (i : Nat) (hr : Region.ready md ops listed = [i]) (hoi : ops[i]? = some o) (hgd : o.guard = none) (ty : TypeId) (x y : Operand) (ho : o.op = .store ty x y) (b off : Nat) (cells : Array Value) (hx : a.eval x = .pointer (some ⟨b, off, none⟩)) (hy : a.eval y = .agg cells)
    (ht : w.there b off cells.size) (hi : (P.info? ty).map (·.size) = some cells.size) (h1 : cells.all (·.oneCell') = true) (hC : C (w.setCells b off cells.toList))
    (h : anyT P md ops Q C T fuel (listed.setIfInBounds i true) (a.put o.dst undef) (w.setCells b off cells.toList)) : anyT P md ops Q C T (fuel + 1) listed a w :=
  one i hr hoi hgd fun _ hK => wp_store_mid ty x y ho b off cells hx hy ht hi h1 (hK _ _ ⟨fun _ => hC, h⟩)
/-- All are listed. -/
theorem done (hr : Region.ready md ops listed = []) (h : Q .normal a w) : anyT P md ops Q C T 0 listed a w := ⟨hr, h⟩
end
end RegC
end Go.Proofs.YthpkeaafgabjiaaDoor

/- A region that draws its order, over a class of worlds: what comes behind it is asked once, for all orders. No condition but those that are named. -/
namespace Go.Proofs.YthpkeaafgabjiaaDoor
open Go.RowKit
namespace RegC
section
variable {P : Program} {Q : Exit → Act → World → Prop}
/-- F: what the frame is behind the region, by two block numbers; V: what holds then. -/
theorem regionK {id : Nat} {a : Act} {w : World} {l : List Oper} (C : World → Prop) (T : List Nat) (V : Nat → Nat → World → Prop) (F : Act → Nat → Nat → Act) (hm : P.follows .mixedOrders = true)
    (hQ : ∀ c a d v w, Q (.panic c) (Act.put a d v) w → Q (.panic c) a w)
    (h : ∀ Q' : Exit → Act → World → Prop, (∀ c a d v w, Q' (.panic c) (Act.put a d v) w → Q' (.panic c) a w) → (∀ x y W, V x y W → Q' .normal (F a x y) W) → anyT P .any l.toArray Q' C T l.toArray.size (Array.replicate l.toArray.size false) a w.drew)
    (cont : ∀ x y W, V x y W → Q .normal (F a x y) W) : (Code.region id l.toArray true).wp P Q a w :=
  region C T hm (h Q hQ cont)
variable {ops : Array Oper} {md : Region.Mode} {C : World → Prop} {T : List Nat} {fuel : Nat} {listed : Array Bool} {a : Act} {w : World}
theorem wp_run {o : Oper} {K : Act → World → Prop} (v : Value) (W2 : World) (hx : (execOp a.eval o).run P w = .ok (.value v) W2) (h : K (a.put o.dst v) W2) : o.wp P a w K Q := by
  unfold Oper.wp
  rw [hx]
  exact h
/-- The one that is ready is run. -/
theorem run1 {o : Oper} (i : Nat) (hr : Region.ready md ops listed = [i]) (hoi : ops[i]? = some o) (hgd : o.guard = none) (v : Value) (W2 : World) (hx : (execOp a.eval o).run P w = .ok (.value v) W2) (hC : T.contains i = false → C W2)
    (h : anyT P md ops Q C T fuel (listed.setIfInBounds i true) (a.put o.dst v) W2) : anyT P md ops Q C T (fuel + 1) listed a w :=
  one i hr hoi hgd fun _ hK => wp_run v W2 hx (hK _ _ ⟨hC, h⟩)
/-- One of those that are ready is run. -/
theorem consRun {o : Oper} {rs : List Nat} (i : Nat) (hoi : ops[i]? = some o) (hgd : o.guard = none) (v : Value) (W2 : World) (hx : (execOp a.eval o).run P w = .ok (.value v) W2) (hC : T.contains i = false → C W2)
    (h : anyT P md ops Q C T fuel (listed.setIfInBounds i true) (a.put o.dst v) W2) (hs : AllT P md ops Q C T fuel listed a w rs) : AllT P md ops Q C T fuel listed a w (i :: rs) :=
  cons hoi (fun K hK => by rw [if_pos (by simp [Region.wanted, hgd])]; exact wp_run v W2 hx (hK _ _ ⟨hC, h⟩)) hs
end
end RegC
end Go.Proofs.YthpkeaafgabjiaaDoor

