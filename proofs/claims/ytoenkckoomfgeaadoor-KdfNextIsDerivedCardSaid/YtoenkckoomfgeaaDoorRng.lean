/- A range over a function, where the iterator may keep its state in memory and need not end by itself: what the two sides keep of each other's memory is said by blocks and what lies in them. One law for the statement. No condition of its own. -/
import Derived.Test.YtoenkckoomfgeaaDoorHMem
import Derived.RangeFuncNested
import Derived.RangeFuncBound
import Derived.RangeFuncCalls
import Derived.RangeFuncLeaves
import Derived.RangeFuncRecord
import Derived.LoopNIn
import Derived.Lib.OthersKept
namespace Go.Proofs.YtoenkckoomfgeaaDoor
open Go Go.RowKit
namespace Rng

/-- The world goes on; of what lay, the objects of p alone may have changed (p: a block and what lies in it). -/
structure Keep (p : Nat → Obj → Prop) (W W' : World) : Prop where
  os : W'.os = W.os
  tape : W'.tape = W.tape
  output : W'.output = W.output
  size : W.heap.size ≤ W'.heap.size
  block : ∀ k o, W.heap[k]? = some o → ¬ p k o → W'.heap[k]? = some o
theorem Keep.refl (p : Nat → Obj → Prop) (W : World) : Keep p W W := ⟨rfl, rfl, rfl, Nat.le_refl _, fun _ _ h _ => h⟩
theorem Keep.trans {p : Nat → Obj → Prop} {W1 W2 W3 : World} (h1 : Keep p W1 W2) (h2 : Keep p W2 W3) : Keep p W1 W3 :=
  ⟨h2.os.trans h1.os, h2.tape.trans h1.tape, h2.output.trans h1.output, Nat.le_trans h1.size h2.size, fun k o hk hp => h2.block k o (h1.block k o hk hp) hp⟩
theorem Keep.mono {p p' : Nat → Obj → Prop} {W W' : World} (h : Keep p W W') (hp : ∀ k o, W.heap[k]? = some o → p k o → p' k o) : Keep p' W W' :=
  ⟨h.os, h.tape, h.output, h.size, fun k o hk hn => h.block k o hk fun hh => hn (hp k o hk hh)⟩
theorem Keep.obj {p : Nat → Obj → Prop} {W W' : World} (h : Keep p W W') {k : Nat} {o : Obj} (hk : W.heap[k]? = some o) (hp : ¬ p k o) : W'.heap[k]? = some o := h.block k o hk hp
theorem Keep.same {p : Nat → Obj → Prop} {W W' : World} (h : Keep p W W') {k : Nat} (hk : k < W.heap.size) (hp : ∀ x, ¬ p k x) : W'.heap[k]? = W.heap[k]? := by
  rw [h.block k _ (Array.getElem?_eq_getElem hk) (hp _), Array.getElem?_eq_getElem hk]
theorem Keep.cell {p : Nat → Obj → Prop} {W W' : World} (h : Keep p W W') {b o : Nat} {v : Value} (hc : W.cell? ⟨b, o, none⟩ = some v) (hp : ∀ x, ¬ p b x) : W'.cell? ⟨b, o, none⟩ = some v :=
  (World.cell?_of_block (a := ⟨b, o, none⟩) (h.same (World.block_lt_of_cell? W _ hc) hp)).trans hc
theorem no_loop {W : World} {b o : Nat} {v : Value} {r : Loop} (hc : W.cell? ⟨b, o, none⟩ = some v) (h : W.heap[b]? = some (.loop r)) : False := by simp [World.cell?, h] at hc
/-- .. where the records of loops may change besides. -/
theorem Keep.cellL {p : Nat → Obj → Prop} {W W' : World} (h : Keep (fun k o => p k o ∨ ∃ r, o = .loop r) W W') {b o : Nat} {v : Value} (hc : W.cell? ⟨b, o, none⟩ = some v) (hp : ∀ x, ¬ p b x) : W'.cell? ⟨b, o, none⟩ = some v := by
  have hb := World.block_lt_of_cell? W _ hc
  have hx := Array.getElem?_eq_getElem hb
  have := h.block b _ hx (fun hh => hh.elim (hp _) fun ⟨r, hr⟩ => no_loop hc (hx.trans (congrArg some hr)))
  exact (World.cell?_of_block (a := ⟨b, o, none⟩) (this.trans hx.symm)).trans hc
theorem Keep.below {p : Nat → Obj → Prop} {B : Nat} {w W W' : World} (h : Keep p W W') (hb : Below B w W) (hB : B ≤ W.heap.size) (hp : ∀ k x, k < B → ¬ p k x) : Below B w W' :=
  ⟨h.os.trans hb.os, h.tape.trans hb.tape, h.output.trans hb.output, Nat.le_trans hb.size h.size, fun k hk => (h.same (Nat.lt_of_lt_of_le hk hB) (fun x => hp k x hk)).trans (hb.block k hk)⟩
theorem Keep.ofBelow {p : Nat → Obj → Prop} {W W' : World} (hb : Below W.heap.size W W') : Keep p W W' :=
  ⟨hb.os, hb.tape, hb.output, hb.size, fun k _ hk _ => (hb.block k (Array.getElem?_eq_some_iff.1 hk).1).trans hk⟩
theorem Keep.ofOthers {B b : Nat} {e : TypeId} {W W' : World} (hb : Below B W W') (ho : Lib.OthersKept e (some b) W W') : Keep (fun k o => k = b ∨ (B ≤ k ∧ ∃ c fz, o = .cells c e fz)) W W' :=
  ⟨hb.os, hb.tape, hb.output, hb.size, fun k o hk hn => by
    by_cases h1 : k = b
    · exact absurd (.inl h1) hn
    by_cases h2 : ∃ c fz, o = .cells c e fz
    · have h3 : k < B := Nat.lt_of_not_le fun h => hn (.inr ⟨h, h2⟩)
      exact (hb.block k h3).trans hk
    · exact ho k o hk (fun h => h1 (Option.some.inj h)) fun c fz h => h2 ⟨c, fz, h⟩⟩
theorem Keep.putObj {p : Nat → Obj → Prop} (W : World) (l : Nat) (o : Obj) (hp : ∀ x, W.heap[l]? = some x → p l x) : Keep p W (W.putObj l o) :=
  ⟨rfl, rfl, rfl, by simp, fun k x hk hn => (World.putObj_heap_other (fun e => hn (by subst e; exact hp x hk))).trans hk⟩
theorem cells_other (g k : Nat) (h : k ≠ g) : ∀ (vs : List Value) (o : Nat) (W : World), (W.setCells g o vs).heap[k]? = W.heap[k]?
  | [], _, _ => rfl
  | v :: r, o, W => (cells_other g k h r (o + 1) _).trans (Below.heap_setCell W ⟨g, o, none⟩ v k h)
theorem Keep.setCells {p : Nat → Obj → Prop} (W : World) (g o : Nat) (vs : List Value) (hg : ∀ x, W.heap[g]? = some x → p g x) : Keep p W (W.setCells g o vs) :=
  ⟨(Hash.below_cells (Nat.le_refl g) vs o W).os, (Hash.below_cells (Nat.le_refl g) vs o W).tape, (Hash.below_cells (Nat.le_refl g) vs o W).output, (Hash.below_cells (Nat.le_refl g) vs o W).size,
    fun k x hk hn => (cells_other g k (fun e => hn (by subst e; exact hg x hk)) vs o W).trans hk⟩

variable {F : Fence} {n : Nat} {P : Program}

theorem keepArr {p : Nat → Obj → Prop} {W W' : World} {g n : Nat} {xs : List Value} (h : Hash.Arr W g n xs) (hk : Keep p W W') (hn : 0 < n) (hp : ∀ x, ¬ p g x) : Hash.Arr W' g n xs := by
  have hb := hk.same (h.size hn) hp
  exact h.keep (fun j => World.cell?_of_block (a := ⟨g, j, none⟩) hb) (fun j => World.frozen?_of_block (a := ⟨g, j, none⟩) hb)
/-- A block of one cell, of type T. -/
def Box (W : World) (g : Nat) (T : TypeId) (v : Value) : Prop := W.heap[g]? = some (.cells #[v] T (0, 0))
theorem Box.lt {W : World} {g : Nat} {T : TypeId} {v : Value} (h : Box W g T v) : g < W.heap.size := (Array.getElem?_eq_some_iff.1 h).1
theorem Box.below {B : Nat} {W W' : World} {g : Nat} {T : TypeId} {v : Value} (h : Box W g T v) (hb : Below B W W') (hg : g < B) : Box W' g T v := (hb.block g hg).trans h
theorem Box.cell {W : World} {g : Nat} {T : TypeId} {v : Value} (h : Box W g T v) : W.cell? ⟨g, 0, none⟩ = some v := cell_of_row W g 0 _ _ (0, 0) h
theorem Box.free {W : World} {g : Nat} {T : TypeId} {v : Value} (h : Box W g T v) (j : Nat) : W.frozen? ⟨g, j, none⟩ = false := frozen_of_row W g j _ _ h
theorem Box.arr {W : World} {g : Nat} {T : TypeId} {v : Value} (h : Box W g T v) : Hash.Arr W g 1 [v] :=
  ⟨rfl, fun j u hu => by
    match j, hu with
    | 0, hu => cases hu; exact h.cell, fun j _ => h.free j⟩
theorem Box.put {W : World} {g : Nat} {T : TypeId} {v : Value} (h : Box W g T v) (u : Value) : Box (W.setCell ⟨g, 0, none⟩ u) g T u := by
  unfold Box at *
  simp [World.setCell, Array.getElem?_modify, h]
theorem Box.other {W : World} {g k : Nat} {T : TypeId} {v : Value} (h : Box W g T v) (hk : g ≠ k) (o : Nat) (u : Value) : Box (W.setCell ⟨k, o, none⟩ u) g T v := (Below.heap_setCell W ⟨k, o, none⟩ u g hk).trans h
theorem Box.new (W : World) (T : TypeId) (v : Value) : Box (W.alloc (.cells #[v] T)) W.heap.size T v := heap_alloc_new W _
theorem Box.keep {p : Nat → Obj → Prop} {W W' : World} {g : Nat} {T : TypeId} {v : Value} (h : Box W g T v) (hk : Keep p W W') (hp : ¬ p g (.cells #[v] T (0, 0))) : Box W' g T v := hk.block g _ h hp
/-- A loop of at most m rounds, each of which may be told of by what no slot holds. -/
theorem loop_ghost {γ : Type} {c : Code} {Q : Exit → Act → World → Prop} (Inv : γ → Nat → Act → World → Prop) (none0 : ∀ g a w, ¬ Inv g 0 a w)
    (step : ∀ g m a w, Inv g (m + 1) a w → c.wpIn F n P (Exit.then (fun a' w' => ∃ g', Inv g' m a' w') Q) a w) (m : Nat) (g : γ) (a : Act) (w : World) (h : Inv g m a w) : (Code.loop c).wpIn F n P Q a w := by
  refine wpIn_loop_rounds m ?_
  induction m generalizing g a w with
  | zero => exact absurd h (none0 _ _ _)
  | succ m ih =>
    rw [roundsIn_succ]
    refine wpIn_mono (step g m a w h) fun e a' w' hh => ?_
    cases e with
    | normal => obtain ⟨g', hg'⟩ := hh; exact ih g' a' w' hg'
    | _ => exact hh

/-- What an iterator does for every caller's pair of invariants. encs x: what it hands over; q: the objects that it may change; p: the objects that a round may change; R: what may have come so far while the caller goes on; T pre x: x may come behind pre; S: all have come. Pre: what it wants of the world at its call. -/
def Runs {α : Type} (F : Fence) (n : Nat) (P : Program) (g : Nat) (lb : Array Value) (encs : α → Array Value) (p q : Nat → Obj → Prop) (R : List α → Prop) (T : List α → α → Prop) (S : List α → Prop) (Pre : World → Prop) : Prop :=
  ∀ (l : Nat) (J Jx : List α → World → Prop) (W : World), Pre W →
    (∀ s A B, J s A → Keep q A B → J s B) →
    (∀ s A B, Jx s A → Keep q A B → Jx s B) →
    (∀ pre A, J pre A → R pre ∧ W.heap.size ≤ A.heap.size ∧ l < W.heap.size) →
    (∀ pre x A, J pre A → T pre x → YieldAt F (n - 1) P l (encs x) A fun e B =>
      Keep (fun k o => p k o ∨ ∃ r, o = .loop r) A B ∧ ((e = .returned (.bool true) ∧ J (pre ++ [x]) B) ∨ (e = .returned (.bool false) ∧ Jx (pre ++ [x]) B))) →
    J [] W →
    CallsIn F n P g (#[.func (.yield l) #[] #[]] ++ lb) W fun e B => (∃ v, e = .returned v) ∧ ((∃ xs, S xs ∧ J xs B) ∨ (∃ pre, Jx pre B))

/-- How the body of a round may be left. -/
def bodyEnds {α : Type} (p : Nat → Obj → Prop) (I : List α → World → Prop) (Ix : Code → List α → World → Prop) (xs : List α) (W : World) : Exit → Act → World → Prop
  | .normal, _, W' => Keep p W W' ∧ I xs W'
  | .ret, _, W' => Keep p W W' ∧ Ix .ret xs W'
  | .exit id, _, W' => Keep p W W' ∧ Ix (.exit id) xs W'
  | .goto t, _, W' => Keep p W W' ∧ Ix (.goto t) xs W'
  | .panic _, _, _ => False
  | .outgrown, _, _ => False

theorem wpIn_range {α : Type} {g : Operand} {ps : Array Tmp} {assign body : Code} {Q : Exit → Act → World → Prop} {a : Act} {w : World}
    (hro : F.round = none) (h1 : 1 ≤ n) {gf : Nat} {lb : Array Value} (hg : a.eval g = .func (.func gf) #[] lb) (hFg : F.fn gf) (eg : ∀ args w, (callFunc gf args).run P w = .ok (.enter gf args) w)
    {encs : α → Array Value} {p q : Nat → Obj → Prop} {R : List α → Prop} {T : List α → α → Prop} {S : List α → Prop} {Pre : World → Prop} (hseq : Runs F (n - 1) P gf lb encs p q R T S Pre)
    (hps : ∀ x, (encs x).size = ps.size) (hp : ∀ k r, w.heap.size ≤ k → ¬ p k (.loop r)) (hpd : ∀ k r, w.heap.size ≤ k → ¬ p k (.deferred r)) (hq : ∀ k r, w.heap.size ≤ k → ¬ q k (.loop r)) (hqd : ∀ k r, w.heap.size ≤ k → ¬ q k (.deferred r))
    (hPre : ∀ W, Below w.heap.size w W → Pre W)
    (I : List α → World → Prop) (Ix : Code → List α → World → Prop)
    (hI : ∀ s A B, I s A → Keep (fun k o => q k o ∨ (w.heap.size ≤ k ∧ ∃ r, o = .loop r)) A B → I s B) (hIx : ∀ c s A B, Ix c s A → Keep (fun k o => q k o ∨ (w.heap.size ≤ k ∧ ∃ r, o = .loop r)) A B → Ix c s B)
    (hR : ∀ pre A, I pre A → R pre ∧ w.heap.size ≤ A.heap.size) (h0 : I [] w)
    (Ax : α → Act → World → Prop) (hAx : ∀ x a' A k r o, Ax x a' A → A.heap[k]? = some (.loop r) → Ax x a' (A.putObj k o))
    (hassign : ∀ (l : Nat) (pre : List α) (x : α) (A : World) (K : Act → World → Prop), I pre A → T pre x → (∀ a' B, Below A.heap.size A B → Ax x a' B → K a' B) →
      assign.wpIn (F.inRound l) (n - 1 - 1) P (Exit.then K (fun _ _ _ => False)) { tmps := (ps.zip (encs x)).foldl (fun t (p, v) => t.setIfInBounds p v) a.tmps, defers := [] } A)
    (hbody : ∀ (l : Nat) (pre : List α) (x : α) (a' : Act) (A : World), I pre A → T pre x → Ax x a' A → body.wpIn (F.inRound l) (n - 1 - 1) P (bodyEnds p I Ix (pre ++ [x]) A) a' A)
    (hdone : ∀ (D : Nat) (xs : List α) (A : World), w.heap.size ≤ D → S xs → I xs A → A.heap[D]? = some (.deferred (some [])) → Q .normal { a with defers := { target := .collected D, args := #[] } :: a.defers } A)
    (hstop : ∀ (D : Nat) (c : Code) (pre : List α) (A : World), w.heap.size ≤ D → Ix c pre A → A.heap[D]? = some (.deferred (some [])) → c.wpIn F n P Q { a with defers := { target := .collected D, args := #[] } :: a.defers } A) :
    (Code.rangeFunc g ps assign body).wpIn F n P Q a w := by
  refine wpIn_rangeFunc fun fn hfn => ?_
  rw [hro]
  obtain ⟨d, hd⟩ : ∃ d, d = w.heap.size := ⟨_, rfl⟩
  obtain ⟨l, hl⟩ : ∃ l, l = d + 1 := ⟨_, rfl⟩
  obtain ⟨rc, hrc⟩ : ∃ rc : Loop, rc = { state := .ready, pending := none, fn, tmps := a.tmps, params := ps, assign, body, defers := d } := ⟨_, rfl⟩
  have hst : rc.state = .ready := by rw [hrc]
  have hpd0 : rc.pending = none := by rw [hrc]
  obtain ⟨W1, hW1⟩ : ∃ W1, W1 = (w.alloc (.deferred (some []))).alloc (.loop rc) := ⟨_, rfl⟩
  have hs1 : W1.heap.size = d + 2 := by rw [hW1, World.size_alloc, World.size_alloc, hd]
  have hL : W1.heap[l]? = some (.loop rc) := by
    have := World.alloc_heap_new (w.alloc (.deferred (some []))) (.loop rc)
    rw [World.size_alloc, ← hd, ← hl] at this
    rw [hW1]; exact this
  have hD : W1.heap[d]? = some (.deferred (some [])) := by
    rw [hW1, hd]
    exact (Below.heap_alloc _ _ _ (by rw [World.size_alloc]; omega)).trans (World.alloc_heap_new w _)
  have hb1 : Below w.heap.size w W1 := by
    rw [hW1]
    exact ((Below.refl _ w).alloc (Nat.le_refl _) _).alloc (by rw [World.size_alloc]; omega) _
  have hI1 : I [] W1 := hI _ _ _ h0 (Keep.ofBelow hb1)
  have hent := run_enterLoop_outer (P := P) (w := w) fn a.tmps ps assign body
  rw [← hd, ← hrc, ← hl, ← hW1] at hent
  have hlq : ∀ r, ¬ q l (.loop r) := fun r => hq l r (by omega)
  have hdq : ∀ r, ¬ q d (.deferred r) := fun r => hqd d r (by omega)
  have wide : ∀ {A B : World}, Keep q A B → Keep (fun k o => q k o ∨ (w.heap.size ≤ k ∧ ∃ r, o = .loop r)) A B := fun h => h.mono fun k _ _ hh => .inl hh
  have wput : ∀ (A : World) (o : Obj), (∃ r, A.heap[l]? = some (.loop r)) → Keep (fun k o => q k o ∨ (w.heap.size ≤ k ∧ ∃ r, o = .loop r)) A (A.putObj l o) := fun A o ⟨r, hr⟩ => Keep.putObj A l o fun x hx => .inr ⟨by omega, r, by rw [hr] at hx; exact (Option.some.inj hx).symm⟩
  refine ⟨l, [{ target := .collected d, args := #[] }], W1, { target := .fn (.func gf) lb, args := #[.func (.yield l) #[] #[]] }, W1, gf, #[.func (.yield l) #[] #[]] ++ lb, W1, hent, ?_, ?_, ?_, fun _ => h1, ?_⟩
  · simp only [resolve, hg]
    simp [go_sem]
  · intro f' hf'
    simp [Target.leads] at hf'
    subst hf'
    exact hFg
  · simp [invoke, go_sem, eg]
  refine (hseq l (fun pre A => I pre A ∧ A.heap[l]? = some (.loop rc) ∧ A.heap[d]? = some (.deferred (some [])) ∧ W1.heap.size ≤ A.heap.size)
    (fun pre A => ∃ c, Ix c pre A ∧ A.heap[l]? = some (.loop { rc with state := .done, pending := some c }) ∧ A.heap[d]? = some (.deferred (some []))) W1 (hPre W1 hb1)
    ?abJ ?abX ?rj ?round ⟨hI1, hL, hD, Nat.le_refl _⟩).mono ?back
  case abJ =>
    rintro s A B ⟨hi, ha, hb, hz⟩ hk
    exact ⟨hI _ _ _ hi (wide hk), hk.obj ha (hlq _), hk.obj hb (hdq _), Nat.le_trans hz hk.size⟩
  case abX =>
    rintro s A B ⟨c, hi, ha, hb⟩ hk
    exact ⟨c, hIx _ _ _ _ hi (wide hk), hk.obj ha (hlq _), hk.obj hb (hdq _)⟩
  case rj =>
    rintro pre A ⟨hi, _, _, hz⟩
    exact ⟨(hR pre A hi).1, hz, by omega⟩
  case round =>
    rintro pre x A ⟨hi, ha, hb, hz⟩ hT
    have hy := run_yield (P := P) (args := encs x) ha (by rw [hrc]; exact hps x)
    rw [show rc.fn = fn by rw [hrc], show rc.params = ps by rw [hrc], show rc.tmps = a.tmps by rw [hrc], show rc.assign = assign by rw [hrc], show rc.body = body by rw [hrc]] at hy
    refine ⟨fn, _, assign, body, hy, roundIn_of_wpIn hfn (hassign l pre x A _ hi hT fun a' B hkB hax => ?_)⟩
    have hkB2 : ∀ p, Keep p A B := fun p => Keep.ofBelow hkB
    have haB : B.heap[l]? = some (.loop rc) := (hkB2 (fun _ _ => False)).obj ha id
    have hbB : B.heap[d]? = some (.deferred (some [])) := (hkB2 (fun _ _ => False)).obj hb id
    have hlB : l < B.heap.size := (Array.getElem?_eq_some_iff.1 haB).1
    refine ⟨_, run_beginRound haB hst, ?_⟩
    have hiC : I pre (B.putObj l (.loop { rc with state := .busy })) := hI _ _ _ (hI _ _ _ hi (hkB2 _)) (wput B _ ⟨_, haB⟩)
    refine wpIn_mono (hbody l pre x a' _ hiC hT (hAx _ _ _ _ _ _ hax haB)) ?_
    have haC : (B.putObj l (.loop { rc with state := .busy })).heap[l]? = some (.loop { rc with state := .busy }) := World.putObj_heap_same hlB
    have hbC : (B.putObj l (.loop { rc with state := .busy })).heap[d]? = some (.deferred (some [])) := (World.putObj_heap_other (by omega)).trans hbB
    have fin : ∀ (jump : Option Code) (C : World), Keep p (B.putObj l (.loop { rc with state := .busy })) C →
        (Instr.endRound l jump).run P C = .ok (.bool jump.isNone) (C.putObj l (.loop { rc with state := if jump.isNone then .ready else .done, pending := jump })) ∧
        (C.putObj l (.loop { rc with state := if jump.isNone then .ready else .done, pending := jump })).heap[l]? = some (.loop { rc with state := if jump.isNone then .ready else .done, pending := jump }) ∧
        (C.putObj l (.loop { rc with state := if jump.isNone then .ready else .done, pending := jump })).heap[d]? = some (.deferred (some [])) ∧
        (∃ r, C.heap[l]? = some (.loop r)) ∧
        Keep (fun k o => p k o ∨ ∃ r, o = .loop r) A (C.putObj l (.loop { rc with state := if jump.isNone then .ready else .done, pending := jump })) := fun jump C hk => by
      have hc := hk.obj haC (hp l _ (by omega))
      refine ⟨by have h := run_endRound (P := P) jump hc; exact h, World.putObj_heap_same (Array.getElem?_eq_some_iff.1 hc).1, (World.putObj_heap_other (by omega)).trans (hk.obj hbC (hpd d _ (by omega))), ⟨_, hc⟩, ?_⟩
      exact (((hkB2 _).trans (Keep.putObj B l _ fun x hx => .inr ⟨rc, by rw [haB] at hx; exact (Option.some.inj hx).symm⟩)).trans (hk.mono fun _ _ _ e => .inl e)).trans (Keep.putObj C l _ fun x hx => .inr ⟨_, by rw [hc] at hx; exact (Option.some.inj hx).symm⟩)
    rintro e a3 C he
    cases e with
    | normal =>
      obtain ⟨hk, hi3⟩ := he
      obtain ⟨hr, hl4, hd4, hlc, hk4⟩ := fin none C hk
      have he4 : ({ rc with state := if (none : Option Code).isNone then LoopState.ready else .done, pending := none } : Loop) = rc := by
        rw [hrc]; rfl
      rw [he4] at hr hl4 hd4 hk4
      exact ⟨_, _, hr, hk4, .inl ⟨rfl, hI _ _ _ hi3 (wput C _ hlc), hl4, hd4, Nat.le_trans hz hk4.size⟩⟩
    | ret =>
      obtain ⟨hk, hi3⟩ := he
      obtain ⟨hr, hl4, hd4, hlc, hk4⟩ := fin (some .ret) C hk
      exact ⟨_, _, hr, hk4, .inr ⟨rfl, _, hIx _ _ _ _ hi3 (wput C _ hlc), hl4, hd4⟩⟩
    | exit id =>
      obtain ⟨hk, hi3⟩ := he
      obtain ⟨hr, hl4, hd4, hlc, hk4⟩ := fin (some (.exit id)) C hk
      exact ⟨_, _, hr, hk4, .inr ⟨rfl, _, hIx _ _ _ _ hi3 (wput C _ hlc), hl4, hd4⟩⟩
    | goto t =>
      obtain ⟨hk, hi3⟩ := he
      obtain ⟨hr, hl4, hd4, hlc, hk4⟩ := fin (some (.goto t)) C hk
      exact ⟨_, _, hr, hk4, .inr ⟨rfl, _, hIx _ _ _ _ hi3 (wput C _ hlc), hl4, hd4⟩⟩
    | panic ch => exact he.elim
    | outgrown => exact he.elim
  case back =>
    rintro e A ⟨⟨v, rfl⟩, hh⟩
    rcases hh with ⟨xs, hS, hi, ha, hb, _⟩ | ⟨pre, c, hi, ha, hb⟩
    · refine ⟨_, _, run_endLoop (P := P) ha (by rw [hst]; simp), ?_⟩
      rw [hpd0]
      exact hdone d xs _ (by omega) hS (hI _ _ _ hi (wput A _ ⟨_, ha⟩)) ((World.putObj_heap_other (by omega)).trans hb)
    · refine ⟨_, _, run_endLoop (P := P) ha (by simp), ?_⟩
      exact hstop d c pre _ (by omega) (hIx _ _ _ _ hi (wput A _ ⟨_, ha⟩)) ((World.putObj_heap_other (by omega)).trans hb)

end Rng
end Go.Proofs.YtoenkckoomfgeaaDoor
