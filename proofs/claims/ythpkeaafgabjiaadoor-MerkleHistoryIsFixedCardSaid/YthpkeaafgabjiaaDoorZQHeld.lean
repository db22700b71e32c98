/- A region that draws its order, walked in the order of its text under a condition on the world that every operation keeps: values are taken first, what makes memory comes up alone. No condition. -/
import Derived.Deep.RegionHeld
namespace Go.Proofs.YthpkeaafgabjiaaDoor
open Go
namespace QHeld

section
variable {P : Program} {l : List Oper} {Q : Exit → Act → World → Prop} {S : World → Prop}

/-- The first k operations have come up. -/
def pre (n : Nat) : Nat → Array Bool
  | 0 => Array.replicate n false
  | k + 1 => (pre n k).setIfInBounds k true
/-- What is left: rest, from number k on. -/
def At (P : Program) (l : List Oper) (Q : Exit → Act → World → Prop) (S : World → Prop) (k : Nat) (rest : List Oper) (a : Act) (w : World) : Prop :=
  l.drop k = rest → wpAnyH P .any l.toArray Q S (l.length - k) (pre l.length k) a w

theorem start {id : Nat} {a : Act} {w : World} (S : World → Prop) (hm : P.follows .mixedOrders = true) (h : At P l Q S 0 l a w.drew) : (Code.region id l.toArray true).wp P Q a w := by
  have := h rfl
  exact wp_region_held (S := S) hm (by simpa [pre] using this)

theorem head_of {k : Nat} {o : Oper} {rest : List Oper} (h : l.drop k = o :: rest) : l[k]? = some o ∧ l.drop (k + 1) = rest ∧ k < l.length := by
  have hk : k < l.length := by
    rcases Nat.lt_or_ge k l.length with h1 | h1
    · exact h1
    · rw [List.drop_of_length_le h1] at h; cases h
  rw [List.drop_eq_getElem_cons hk] at h
  exact ⟨by rw [List.getElem?_eq_getElem hk, (List.cons.inj h).1], (List.cons.inj h).2, hk⟩

/-- Number k may come up now, and may be taken first. -/
def freeB (l : List Oper) (k : Nat) : Bool := Region.noSelect l.toArray && Region.free .any l.toArray (pre l.length k) k && (Region.ready .any l.toArray (pre l.length k)).contains k
theorem take {k : Nat} {o : Oper} {rest : List Oper} {a : Act} {w : World} (v : Value) (hB : freeB l k = true) (hQ : ∀ (c : List PanicEntry) (a : Act) (v : Value) (w : World), Q (.panic c) (a.put o.dst v) w → Q (.panic c) a w) (hS : S w)
    (hy : YieldsIf P l.toArray S o v a) (h : At P l Q S (k + 1) rest (a.put o.dst v) w) : At P l Q S k (o :: rest) a w := by
  intro hd
  obtain ⟨ho, hr, hk⟩ := head_of hd
  simp only [freeB, Bool.and_eq_true] at hB
  have h1 := h hr
  rw [show l.length - k = (l.length - (k + 1)) + 1 by omega]
  exact wpAnyH_take (i := k) (oi := o) (v := v) (by simpa using ho) hB.1.1 hB.1.2 hB.2 (fun c a w hh => hQ c a v w hh) hy hS h1
/-- A value that hangs on no world but such as meets S. -/
theorem val {k : Nat} {o : Oper} {rest : List Oper} {a : Act} {w : World} (hB : freeB l k = true) (hQ : ∀ (c : List PanicEntry) (a : Act) (v : Value) (w : World), Q (.panic c) (a.put o.dst v) w → Q (.panic c) a w) (hw : Region.wanted o (yielded l.toArray a.tmps) = true) (hS : S w)
    (h : ∃ v, (∀ W, S W → (execOp a.eval o).run P W = .ok (.value v) W) ∧ At P l Q S (k + 1) rest (a.put o.dst v) w) : At P l Q S k (o :: rest) a w := by
  obtain ⟨v, hv, h⟩ := h
  exact take v hB hQ hS (Or.inl ⟨hw, hv⟩) h
/-- One that its guard passes over. -/
theorem skip {k : Nat} {o : Oper} {rest : List Oper} {a : Act} {w : World} (hB : freeB l k = true) (hQ : ∀ (c : List PanicEntry) (a : Act) (v : Value) (w : World), Q (.panic c) (a.put o.dst v) w → Q (.panic c) a w) (hw : Region.wanted o (yielded l.toArray a.tmps) = false) (hS : S w)
    (h : At P l Q S (k + 1) rest (a.put o.dst undef) w) : At P l Q S k (o :: rest) a w :=
  take undef hB hQ hS (Or.inr ⟨hw, rfl⟩) h
/-- A whole array is loaded. -/
theorem load {k : Nat} {o : Oper} {rest : List Oper} {a : Act} {w : World} (hB : freeB l k = true) (hQ : ∀ (c : List PanicEntry) (a : Act) (v : Value) (w : World), Q (.panic c) (a.put o.dst v) w → Q (.panic c) a w) (hw : Region.wanted o (yielded l.toArray a.tmps) = true) (hS : S w)
    (ty : TypeId) (x : Operand) (ho : o.op = .load ty x) (b off : Nat) (hx : a.eval x = .pointer (some ⟨b, off, none⟩)) (cs : List Value) (d : TypeDesc) (hc : ∀ W, S W → W.rangeAt b off cs)
    (hu : P.underlying ty = some d) (hd : d.isRow = true) (hi : (P.info? ty).map (·.size) = some cs.length)
    (h : At P l Q S (k + 1) rest (a.put o.dst (.agg cs.toArray)) w) : At P l Q S k (o :: rest) a w :=
  take (.agg cs.toArray) hB hQ hS (yieldsIf_load_mid hw ty x ho b off hx cs d hc hu hd hi) h
/-- One that comes up alone: it is run as it stands; behind it S is shown anew. -/
theorem one {k : Nat} {o : Oper} {rest : List Oper} {a : Act} {w : World} (hr : Region.ready .any l.toArray (pre l.length k) = [k])
    (h : ∀ K : Act → World → Prop, Shut (∀ a w, S w → (S w → At P l Q S (k + 1) rest a w) → K a w) → if Region.wanted o (yielded l.toArray a.tmps) = true then Oper.wp P o a w K Q else K (a.put o.dst undef) w) : At P l Q S k (o :: rest) a w := by
  intro hd
  obtain ⟨ho, hrr, hk⟩ := head_of hd
  rw [show l.length - k = (l.length - (k + 1)) + 1 by omega]
  refine wpAnyH_ready (rs := [k]) hr (by simp) (AllReadyH.cons (o := o) (by simpa using ho) (fun K hK => h K fun a w hS hh => hK a w hS fun hS => hh hS hrr) AllReadyH.nil)
theorem stop {k : Nat} {a : Act} {w : World} (hr : (Region.ready .any l.toArray (pre l.length k)).isEmpty = true) (h : Q .normal a w) : At P l Q S k [] a w := by
  intro _
  exact wpAnyH_done (by simpa using hr) h _

end
end QHeld
end Go.Proofs.YthpkeaafgabjiaaDoor
