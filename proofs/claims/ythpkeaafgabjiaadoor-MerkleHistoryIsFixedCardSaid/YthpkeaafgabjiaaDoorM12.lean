/- MCla; MClaB: what each of these parts proves stands ahead of it. -/
import Derived.Test.YthpkeaafgabjiaaDoorM11
/- The reference of package merkle: Clash. Conditions: what Inputs answers. -/
namespace Go.Proofs.YthpkeaafgabjiaaDoor
open Go.RowKit
namespace Mk
open Wire (bv sv Lies)
open Hash (Arr bcj)

/-- The collision that two rows of inputs exhibit. -/
def clashOf (o p : Option (List (List UInt8))) : Option (List UInt8 × List UInt8) :=
  match o, p with
  | some (t :: l), some (s :: m) => if HH.sh t = HH.sh s then firstDiff (t :: l) (s :: m) else none
  | _, _ => none
def cellsC (u v : Value) (b : Bool) : List Value := [u, v, .bool b]
/-- Two texts of one's own and true, or nothing and false. -/
def GivesC (r : Option (List UInt8 × List UInt8)) (w : World) (e : Ending) (w' : World) : Prop :=
  ∃ u v, e = .returned (.agg #[u, v, .bool r.isSome]) ∧ Below w.heap.size w w' ∧
    match r with
    | none => u = .slice none 0 0 ∧ v = .slice none 0 0
    | some (x, y) => Mem w' w.heap.size x u ∧ Mem w' w.heap.size y v
theorem row_c : ∃ d, Tryd.prog.underlying 42 = some d ∧ d.isRow = true := ⟨_, Tryd.underlying42, rfl⟩
theorem info_c (u v : Value) (b : Bool) : (Tryd.prog.info? 42).map (·.size) = some (cellsC u v b).length := by show _ = some 3; kernel_rfl
/-- The digests that came in, and room for what goes out. -/
structure Ck (w W : World) (a b : List UInt8) : Prop where
  v : Vb w W a b
  r : ∃ zs, Arr W (w.heap.size + 1 + 1) 3 zs
theorem Ck.on {w W W' : World} {a b : List UInt8} (h : Ck w W a b) (hb : Below W.heap.size W W') : Ck w W' a b := by
  obtain ⟨zs, hz⟩ := h.r
  exact ⟨h.v.on hb, zs, hz.below hb (hz.size (by omega))⟩
theorem ck_new (w : World) {a b : List UInt8} (ha : a.length = 16) (hb : b.length = 16) (t t2 t3 : TypeId) : Ck w (((w.alloc (.cells (a.map bv).toArray t)).alloc (.cells (b.map bv).toArray t2)).alloc (.cells #[.slice none 0 0, .slice none 0 0, .bool false] t3)) a b := by
  have h := Hash.arr_new ((w.alloc (.cells (a.map bv).toArray t)).alloc (.cells (b.map bv).toArray t2)) #[.slice none 0 0, .slice none 0 0, .bool false] t3
  rw [World.size_alloc, World.size_alloc] at h
  exact ⟨(vb_new w ha hb t t2).on (Wire.b1 _ _), _, h⟩
theorem Ck.fin {w W : World} {a b : List UInt8} (h : Ck w W a b) (u v : Value) (f : Bool) :
    (loadVar 42 ⟨w.heap.size + 1 + 1, 0, none⟩).run Tryd.prog (W.setCells (w.heap.size + 1 + 1) 0 (cellsC u v f)) = .ok (.agg (cellsC u v f).toArray) (W.setCells (w.heap.size + 1 + 1) 0 (cellsC u v f)) ∧ Below w.heap.size w (W.setCells (w.heap.size + 1 + 1) 0 (cellsC u v f)) := by
  obtain ⟨d, h1, h2⟩ := row_c
  obtain ⟨zs, hz⟩ := h.r
  exact Hash.arr_end (w := w) (wr := W) (g := w.heap.size + 1 + 1) (xs := cellsC u v f) 42 h.v.z (by omega) hz.there h1 h2 (info_c u v f)
section
variable {ops : Array Oper} {rest : List Oper} {o : Oper} {a : Act} {w : World} {Q : Exit → Act → World → Prop}
theorem build_c (p q r : Operand) (ho : o.op = .build 42 #[(0, p), (1, q), (2, r)]) (hgd : o.guard = none) {A B : Option Addr} {n m c d : Nat} {b : Bool} (hp : a.eval p = .slice A n c) (hq : a.eval q = .slice B m d) (hr : a.eval r = .bool b)
    (h : wpList Tryd.prog ops Q rest (a.put o.dst (.agg (cellsC (.slice A n c) (.slice B m d) b).toArray)) w) : wpList Tryd.prog ops Q (o :: rest) a w := by
  have hb : Tryd.prog.built 42 ((#[(0, p), (1, q), (2, r)] : Array (Nat × Operand)).map fun (i, x) => (i, a.eval x)).toList = some (cellsC (.slice A n c) (.slice B m d) b).toArray := by
    rw [Array.toList_map]
    simp only [List.map_cons, List.map_nil, hp, hq, hr]
    kernel_rfl
  refine wpList_build hgd _ _ ho (by rw [hb]; rfl) ?_
  rw [hb]
  exact h
theorem build_c0 (ho : o.op = .build 42 #[]) (hgd : o.guard = none)
    (h : wpList Tryd.prog ops Q rest (a.put o.dst (.agg (cellsC (.slice none 0 0) (.slice none 0 0) false).toArray)) w) : wpList Tryd.prog ops Q (o :: rest) a w := by
  have hb : Tryd.prog.built 42 ((#[] : Array (Nat × Operand)).map fun (i, x) => (i, a.eval x)).toList = some (cellsC (.slice none 0 0) (.slice none 0 0) false).toArray := by
    rw [Array.toList_map]
    kernel_rfl
  refine wpList_build hgd _ _ ho (by rw [hb]; rfl) ?_
  rw [hb]
  exact h
theorem store_c (x y : Operand) (ho : o.op = .store 42 x y) (hgd : o.guard = none) (g : Nat) (hx : a.eval x = .pointer (some ⟨g, 0, none⟩)) {A B : Option Addr} {n m c d : Nat} {b : Bool} (hy : a.eval y = .agg (cellsC (.slice A n c) (.slice B m d) b).toArray) (ht : w.there g 0 3)
    (h : wpList Tryd.prog ops Q rest (a.put o.dst undef) (w.setCells g 0 (cellsC (.slice A n c) (.slice B m d) b))) : wpList Tryd.prog ops Q (o :: rest) a w :=
  wpList_store_mid hgd 42 x y ho g 0 (cellsC (.slice A n c) (.slice B m d) b).toArray hx hy ht (info_c _ _ _) (all_oneCell_toArray (fun v hv => by simp only [cellsC, List.mem_cons, List.not_mem_nil, or_false] at hv; rcases hv with rfl | rfl | rfl <;> rfl)) h
end

set_option maxRecDepth 100000 in
set_option maxHeartbeats 2000000 in
theorem refClash_none (a b : List UInt8) (ha : a.length = 16) (hb : b.length = 16) (n i : Int) (q1 c1 q2 c2 : Nat) (A1 A2 : Option Addr) (w : World) (o p : Option (List (List UInt8))) (hop : o = none ∨ ((∃ L, o = some L) ∧ p = none))
    (hin : ∀ W, Below w.heap.size w W → Calls Tryd.prog 25 #[.int .i64 n, .int .i64 i, dv a, .slice A1 q1 c1] W (GivesI o W))
    (hin2 : ∀ W, Below w.heap.size w W → Calls Tryd.prog 25 #[.int .i64 n, .int .i64 i, dv b, .slice A2 q2 c2] W (GivesI p W)) :
    Calls Tryd.prog 23 #[.int .i64 n, .int .i64 i, dv a, dv b, .slice A1 q1 c1, .slice A2 q2 c2] w (GivesC none w) := by
  have Y := ck_new w ha hb 29 29 42
  have HA := Lib.hid ha
  have HB := Lib.hid hb
  have HPA := Lib.hid hin
  have HPB := Lib.hid hin2
  clear ha hb hin hin2
  unfold dv
  rcases hop with rfl | ⟨⟨L, rfl⟩, rfl⟩
  · go_enter Tryd.func23, Tryd.ntmps23
    go_wp2_with (first
      | (refine load_d 21 rfl rfl _ rfl w.heap.size 0 rfl a HA.out Y.v.a.range ?_)
      | (refine load_d 29 rfl rfl _ rfl (w.heap.size + 1) 0 rfl b HB.out Y.v.b.range ?_)
      | (go_at_call 25; (first | (with_reducible refine (HPA.out _ Y.v.z).mono ?_) | (with_reducible refine (HPB.out _ Y.v.z).mono ?_)); rintro e w5 ⟨v4, m4, rfl, -, hb⟩; replace Y := Y.on hb; clear hb))
    refine QTail.whole (fun W => Ck w W a b) (by kernel_rfl) (by kernel_rfl) (Y.on (Hash.belowD _)) ?_
    (refine wpQuiet_step (fun K hK => ?_); go_simp; (first | refine hK _ ?_ | refine ⟨_, fun _ _ => rfl, hK _ ?_⟩); clear hK K)
    (refine wpQuiet_step (fun K hK => ?_); go_simp; (first | refine hK _ ?_ | refine ⟨_, fun _ _ => rfl, hK _ ?_⟩); clear hK K)
    (refine wpQuiet_step (fun K hK => ?_); go_simp; (first | refine hK _ ?_ | refine ⟨_, fun _ _ => rfl, hK _ ?_⟩); clear hK K)
    (with_reducible refine wpQuiet_step (fun K hK => ?_)); go_simp; (with_reducible refine hK _ ?_); clear hK K
    (with_reducible refine wpQuiet_step (fun K hK => ?_)); go_simp; (with_reducible refine hK _ ?_); clear hK K
    (refine wpQuiet_step (fun K hK => ?_); go_simp; (first | refine hK _ ?_ | refine ⟨_, fun _ _ => rfl, hK _ ?_⟩); clear hK K)
    (refine wpQuiet_step (fun K hK => ?_); go_simp; (first | refine hK _ ?_ | refine ⟨_, fun _ _ => rfl, hK _ ?_⟩); clear hK K)
    (with_reducible refine wpQuiet_step (fun K hK => ?_)); go_simp; (with_reducible refine hK _ ?_); clear hK K
    (with_reducible refine wpQuiet_step (fun K hK => ?_)); go_simp; (with_reducible refine hK _ ?_); clear hK K
    (with_reducible refine wpQuiet_step (fun K hK => ?_)); go_simp; (with_reducible refine hK _ ?_); clear hK K
    (with_reducible refine wpQuiet_step (fun K hK => ?_)); go_simp; (with_reducible refine hK _ ?_); clear hK K
    (with_reducible refine wpQuiet_step (fun K hK => ?_)); go_simp; (with_reducible refine hK _ ?_); clear hK K
    (with_reducible refine wpQuiet_step (fun K hK => ?_)); go_simp; (with_reducible refine hK _ ?_); clear hK K
    (with_reducible refine wpQuiet_step (fun K hK => ?_)); go_simp; (with_reducible refine hK _ ?_); clear hK K
    (with_reducible refine wpQuiet_step (fun K hK => ?_)); go_simp; (with_reducible refine hK _ ?_); clear hK K
    (with_reducible refine wpQuiet_step (fun K hK => ?_)); go_simp; (with_reducible refine hK _ ?_); clear hK K
    (with_reducible refine wpQuiet_step (fun K hK => ?_)); go_simp; (with_reducible refine hK _ ?_); clear hK K
    (with_reducible refine wpQuiet_step (fun K hK => ?_)); go_simp; (with_reducible refine hK _ ?_); clear hK K
    (with_reducible refine wpQuiet_step (fun K hK => ?_)); go_simp; (with_reducible refine hK _ ?_); clear hK K
    (with_reducible refine wpQuiet_step (fun K hK => ?_)); go_simp; (with_reducible refine hK _ ?_); clear hK K
    (with_reducible refine wpQuiet_step (fun K hK => ?_)); go_simp; (with_reducible refine hK _ ?_); clear hK K
    (with_reducible refine wpQuiet_step (fun K hK => ?_)); go_simp; (with_reducible refine hK _ ?_); clear hK K
    (refine wpQuiet_step (fun K hK => ?_); go_simp; (first | refine hK _ ?_ | refine ⟨_, fun _ _ => rfl, hK _ ?_⟩); clear hK K)
    refine wpQuiet_nil ?_
    clear Y
    intro w7 Y
    have hth : w7.there (w.heap.size + 1 + 1) 0 3 := by obtain ⟨zs, hz⟩ := Y.r; exact hz.there
    go_wp2_with (first
      | (refine build_c0 rfl rfl ?_)
      | (refine store_c (.tmp 12) (.tmp 57) rfl rfl (w.heap.size + 1 + 1) rfl (A := none) (B := none) (n := 0) (m := 0) (c := 0) (d := 0) (b := false) rfl hth ?_))
    have HE := Y.fin (.slice none 0 0) (.slice none 0 0) false
    refine bodyPost_ret (v := .agg (cellsC (.slice none 0 0) (.slice none 0 0) false).toArray) ?_ rfl ⟨_, _, rfl, HE.2, rfl, rfl⟩
    simp [results, Tryd.results23, asAddr, Act.put]
    rw [HE.1]
  · go_enter Tryd.func23, Tryd.ntmps23
    go_wp2_with (first
      | (refine load_d 21 rfl rfl _ rfl w.heap.size 0 rfl a HA.out Y.v.a.range ?_)
      | (refine load_d 29 rfl rfl _ rfl (w.heap.size + 1) 0 rfl b HB.out Y.v.b.range ?_)
      | (go_at_call 25; (first | (with_reducible refine (HPA.out _ Y.v.z).mono ?_) | (with_reducible refine (HPB.out _ Y.v.z).mono ?_)); rintro e w5 ⟨v4, m4, rfl, -, hb⟩; replace Y := Y.on hb; clear hb))
    refine QTail.whole (fun W => Ck w W a b) (by kernel_rfl) (by kernel_rfl) (Y.on (Hash.belowD _)) ?_
    (refine wpQuiet_step (fun K hK => ?_); go_simp; (first | refine hK _ ?_ | refine ⟨_, fun _ _ => rfl, hK _ ?_⟩); clear hK K)
    (refine wpQuiet_step (fun K hK => ?_); go_simp; (first | refine hK _ ?_ | refine ⟨_, fun _ _ => rfl, hK _ ?_⟩); clear hK K)
    (refine wpQuiet_step (fun K hK => ?_); go_simp; (first | refine hK _ ?_ | refine ⟨_, fun _ _ => rfl, hK _ ?_⟩); clear hK K)
    (refine wpQuiet_step (fun K hK => ?_); go_simp; (first | refine hK _ ?_ | refine ⟨_, fun _ _ => rfl, hK _ ?_⟩); clear hK K)
    (refine wpQuiet_step (fun K hK => ?_); go_simp; (first | refine hK _ ?_ | refine ⟨_, fun _ _ => rfl, hK _ ?_⟩); clear hK K)
    (refine wpQuiet_step (fun K hK => ?_); go_simp; (first | refine hK _ ?_ | refine ⟨_, fun _ _ => rfl, hK _ ?_⟩); clear hK K)
    (refine wpQuiet_step (fun K hK => ?_); go_simp; (first | refine hK _ ?_ | refine ⟨_, fun _ _ => rfl, hK _ ?_⟩); clear hK K)
    (with_reducible refine wpQuiet_step (fun K hK => ?_)); go_simp; (with_reducible refine hK _ ?_); clear hK K
    (with_reducible refine wpQuiet_step (fun K hK => ?_)); go_simp; (with_reducible refine hK _ ?_); clear hK K
    (with_reducible refine wpQuiet_step (fun K hK => ?_)); go_simp; (with_reducible refine hK _ ?_); clear hK K
    (with_reducible refine wpQuiet_step (fun K hK => ?_)); go_simp; (with_reducible refine hK _ ?_); clear hK K
    (with_reducible refine wpQuiet_step (fun K hK => ?_)); go_simp; (with_reducible refine hK _ ?_); clear hK K
    (with_reducible refine wpQuiet_step (fun K hK => ?_)); go_simp; (with_reducible refine hK _ ?_); clear hK K
    (with_reducible refine wpQuiet_step (fun K hK => ?_)); go_simp; (with_reducible refine hK _ ?_); clear hK K
    (with_reducible refine wpQuiet_step (fun K hK => ?_)); go_simp; (with_reducible refine hK _ ?_); clear hK K
    (with_reducible refine wpQuiet_step (fun K hK => ?_)); go_simp; (with_reducible refine hK _ ?_); clear hK K
    (with_reducible refine wpQuiet_step (fun K hK => ?_)); go_simp; (with_reducible refine hK _ ?_); clear hK K
    (with_reducible refine wpQuiet_step (fun K hK => ?_)); go_simp; (with_reducible refine hK _ ?_); clear hK K
    (with_reducible refine wpQuiet_step (fun K hK => ?_)); go_simp; (with_reducible refine hK _ ?_); clear hK K
    (with_reducible refine wpQuiet_step (fun K hK => ?_)); go_simp; (with_reducible refine hK _ ?_); clear hK K
    (with_reducible refine wpQuiet_step (fun K hK => ?_)); go_simp; (with_reducible refine hK _ ?_); clear hK K
    (with_reducible refine wpQuiet_step (fun K hK => ?_)); go_simp; (with_reducible refine hK _ ?_); clear hK K
    (refine wpQuiet_step (fun K hK => ?_); go_simp; (first | refine hK _ ?_ | refine ⟨_, fun _ _ => rfl, hK _ ?_⟩); clear hK K)
    refine wpQuiet_nil ?_
    clear Y
    intro w7 Y
    have hth : w7.there (w.heap.size + 1 + 1) 0 3 := by obtain ⟨zs, hz⟩ := Y.r; exact hz.there
    go_wp2_with (first
      | (refine build_c0 rfl rfl ?_)
      | (refine store_c (.tmp 12) (.tmp 57) rfl rfl (w.heap.size + 1 + 1) rfl (A := none) (B := none) (n := 0) (m := 0) (c := 0) (d := 0) (b := false) rfl hth ?_))
    have HE := Y.fin (.slice none 0 0) (.slice none 0 0) false
    refine bodyPost_ret (v := .agg (cellsC (.slice none 0 0) (.slice none 0 0) false).toArray) ?_ rfl ⟨_, _, rfl, HE.2, rfl, rfl⟩
    simp [results, Tryd.results23, asAddr, Act.put]
    rw [HE.1]
end Mk
end Go.Proofs.YthpkeaafgabjiaaDoor

/- The reference of package merkle: Clash, where both proofs have the right length. Conditions: what Inputs answers, the tables are laid. -/
namespace Go.Proofs.YthpkeaafgabjiaaDoor
open Go.RowKit
namespace Mk
open Wire (bv sv Lies)
open Hash (Arr bcj)

theorem rev_at {α : Type} {L : List α} {N k : Nat} (hL : L.length = N + 1) (hk : k ≤ N) : ∃ x, x ∈ L ∧ L.reverse[k]? = some x ∧ L.drop (N - k) = x :: L.drop (N + 1 - k) := by
  have hi : N - k < L.length := by omega
  refine ⟨L[N - k], List.getElem_mem _, ?_, ?_⟩
  · rw [List.getElem?_reverse (by omega), hL, show N + 1 - 1 - k = N - k by omega]
    exact List.getElem?_eq_getElem hi
  · rw [List.drop_eq_getElem_cons hi, show N + 1 - k = N - k + 1 by omega]
theorem heap_cells {g k : Nat} (h : k ≠ g) : ∀ (vs : List Value) (o : Nat) (w : World), (w.setCells g o vs).heap[k]? = w.heap[k]?
  | [], _, _ => rfl
  | v :: r, o, w => (heap_cells h r (o + 1) _).trans (Below.heap_setCell w ⟨g, o, none⟩ v k h)
theorem Mem.cells {W : World} {base g : Nat} {x : List UInt8} {u : Value} (h : Mem W base x u) (hg : g < base) (vs : List Value) : Mem (W.setCells g 0 vs) base x u := by
  obtain ⟨g1, c, rfl, ho⟩ := h
  refine ⟨g1, c, rfl, ho.1, ?_⟩
  rcases ho.2 with ⟨h0, _⟩ | ⟨g2, cap, cur, e2, hb, hcell, r⟩
  · cases h0
  · exact .inr ⟨g2, cap, cur, e2, hb, (heap_cells (by omega) vs 0 W).trans hcell, r⟩
/-- The world behind both rows. -/
structure Kc (w w6 W : World) (a b : List UInt8) : Prop where
  c : Ck w W a b
  far : Below w6.heap.size w6 W
theorem Kc.on {w w6 W W' : World} {a b : List UInt8} (h : Kc w w6 W a b) (hb : Below W.heap.size W W') : Kc w w6 W' a b := ⟨h.c.on hb, bcj h.far hb⟩
theorem Ck.room {w W : World} {a b : List UInt8} (h : Ck w W a b) : w.heap.size + 1 + 1 + 1 ≤ W.heap.size := by
  obtain ⟨zs, hz⟩ := h.r
  exact hz.size (by omega)
/-- What is read at a place of a row: the cell, and what the text there reads as. -/
theorem OwnT.look {w6 : World} {base n c k g : Nat} {l : List (List UInt8)} {x : List UInt8} (h : OwnT w6 base (.slice (some ⟨g, 0, none⟩) n c) n l) (hx : l[k]? = some x) :
    ∃ g2 c2, w6.cell? ⟨g, k, none⟩ = some (.slice (some ⟨g2, 0, none⟩) x.length c2) ∧ g < w6.heap.size ∧ Lies w6 w6.heap.size 1 (some ⟨g2, 0, none⟩) x.length c2 (x.map bv) ∧ Mem w6 base x (.slice (some ⟨g2, 0, none⟩) x.length c2) := by
  obtain ⟨vs, ho, h1, h2⟩ := h
  obtain ⟨u, hu, hm⟩ := h2 k x hx
  have hm2 := hm
  obtain ⟨g', c', rfl, hr⟩ := hm2
  have hcell := ho.cells (g := g) rfl k _ hu
  rw [show (⟨g, 0, none⟩ : Addr).add k = ⟨g, k, none⟩ by unfold Addr.add; split <;> simp_all] at hcell
  exact ⟨g', c', hcell, (ho.lt g rfl).2, Wire.lies_own hr, hm⟩

set_option maxRecDepth 100000 in
set_option maxHeartbeats 4000000 in
theorem refClash_some (a b : List UInt8) (ha : a.length = 16) (hb : b.length = 16) (n i : Int) (q1 c1 q2 c2 : Nat) (A1 A2 : Option Addr) (w : World) (ht : TT w) (t s : List UInt8) (l m : List (List UInt8)) (N : Nat) (hN : N ≤ 1000000)
    (h1 : (t :: l).length = N + 1) (h2 : (s :: m).length = N + 1) (hle1 : ∀ x ∈ t :: l, x.length ≤ 1000000) (hle2 : ∀ x ∈ s :: m, x.length ≤ 1000000)
    (hin : ∀ W, Below w.heap.size w W → Calls Tryd.prog 25 #[.int .i64 n, .int .i64 i, dv a, .slice A1 q1 c1] W (GivesI (some (t :: l)) W))
    (hin2 : ∀ W, Below w.heap.size w W → Calls Tryd.prog 25 #[.int .i64 n, .int .i64 i, dv b, .slice A2 q2 c2] W (GivesI (some (s :: m)) W)) :
    Calls Tryd.prog 23 #[.int .i64 n, .int .i64 i, dv a, dv b, .slice A1 q1 c1, .slice A2 q2 c2] w (GivesC (clashOf (some (t :: l)) (some (s :: m))) w) := by
  have Y := ck_new w ha hb 29 29 42
  have HA := Lib.hid ha
  have HB := Lib.hid hb
  have HTT := Lib.hid ht
  have HPA := Lib.hid hin
  have HPB := Lib.hid hin2
  have HS1 : Hid (∀ W g2 c5, Lies W W.heap.size 1 (some ⟨g2, 0, none⟩) t.length c5 (t.map bv) → TT W → Calls Tryd.prog 47 #[.slice (some ⟨g2, 0, none⟩) t.length c5] W (Hash.GivesA ((HH.sh t).map bv) W)) := Lib.hid (fun W g2 c5 h hT => refShort_any t t.length c5 _ W h (hle1 t (by simp)) hT)
  have HS2 : Hid (∀ W g2 c5, Lies W W.heap.size 1 (some ⟨g2, 0, none⟩) s.length c5 (s.map bv) → TT W → Calls Tryd.prog 47 #[.slice (some ⟨g2, 0, none⟩) s.length c5] W (Hash.GivesA ((HH.sh s).map bv) W)) := Lib.hid (fun W g2 c5 h hT => refShort_any s s.length c5 _ W h (hle2 s (by simp)) hT)
  have hd1 := sh_length t
  have hd2 := sh_length s
  have HR : Hid (clashOf (some (t :: l)) (some (s :: m)) = if HH.sh t = HH.sh s then firstDiff (t :: l) (s :: m) else none) := Lib.hid rfl
  generalize clashOf (some (t :: l)) (some (s :: m)) = R at *
  generalize HH.sh t = D1 at *
  generalize HH.sh s = D2 at *
  have HE := Lib.hid (fun W => eq_d D1 D2 hd1 hd2 W)
  have HT1 : Hid ((t :: l).reverse[N]? = some t) := Lib.hid (by
    have : l.length = N := by simpa using h1
    rw [List.reverse_cons, List.getElem?_append_right (by simp; omega)]; simp [this])
  have HT2 : Hid ((s :: m).reverse[N]? = some s) := Lib.hid (by
    have : m.length = N := by simpa using h2
    rw [List.reverse_cons, List.getElem?_append_right (by simp; omega)]; simp [this])
  have HM1 : Hid ((t :: l).reverse.length = N + 1) := Lib.hid (by rw [List.length_reverse]; exact h1)
  have HM2 : Hid ((s :: m).reverse.length = N + 1) := Lib.hid (by rw [List.length_reverse]; exact h2)
  have HV1 : Hid (∀ k, k ≤ N → ∃ x, x ∈ t :: l ∧ (t :: l).reverse[k]? = some x ∧ (t :: l).drop (N - k) = x :: (t :: l).drop (N + 1 - k)) := Lib.hid (fun k hk => rev_at h1 hk)
  have HV2 : Hid (∀ k, k ≤ N → ∃ x, x ∈ s :: m ∧ (s :: m).reverse[k]? = some x ∧ (s :: m).drop (N - k) = x :: (s :: m).drop (N + 1 - k)) := Lib.hid (fun k hk => rev_at h2 hk)
  have HZ : Hid (firstDiff ((t :: l).drop (N + 1 - 0)) ((s :: m).drop (N + 1 - 0)) = none) := Lib.hid (by
    rw [List.drop_eq_nil_of_le (by rw [h1]; omega)]; rfl)
  have HZ0 : Hid (firstDiff ((t :: l).drop 0) ((s :: m).drop 0) = firstDiff (t :: l) (s :: m)) := Lib.hid rfl
  generalize hK1 : (t :: l) = K1 at *
  generalize hK2 : (s :: m) = K2 at *
  generalize hJ1 : K1.reverse = J1 at *
  generalize hJ2 : K2.reverse = J2 at *
  have HN := Lib.hid hN
  clear ha hb hin hin2 ht h1 h2 hle1 hle2 hd1 hd2 hK1 hK2 hN
  unfold dv
  go_enter Tryd.func23, Tryd.ntmps23
  go_wp2_with (first
    | (refine load_d 21 rfl rfl _ rfl w.heap.size 0 rfl a HA.out Y.v.a.range ?_)
    | (refine load_d 29 rfl rfl _ rfl (w.heap.size + 1) 0 rfl b HB.out Y.v.b.range ?_)
    | (go_at_call 25; (with_reducible refine (HPA.out _ Y.v.z).mono ?_); rintro e w5 ⟨v4, m4, rfl, hown, hb⟩; replace hown := (hown _ rfl).more Y.room; rw [hJ1] at hown; replace Y := Y.on hb; clear hb; obtain rfl : m4 = N + 1 := (by rw [← hown.len]; exact HM1.out); obtain ⟨g1, k1, -, -, rfl, -⟩ := hown.at_ HT1.out; have HO1 := Lib.hid hown; clear hown)
    | (go_at_call 25; (with_reducible refine (HPB.out _ Y.v.z).mono ?_); rintro e w6 ⟨v5, m5, rfl, hown, hb⟩; replace hown := (hown _ rfl).more Y.room; rw [hJ2] at hown; replace Y := Y.on hb; replace HO1 := Lib.hid (HO1.out.on hb); clear hb; obtain rfl : m5 = N + 1 := (by rw [← hown.len]; exact HM2.out); obtain ⟨g2, k2, -, -, rfl, -⟩ := hown.at_ HT2.out; have HO2 := Lib.hid hown; clear hown))
  have y5 : ((N + 1 : Nat) : Int) - 1 = (N : Int) := by omega
  have y6 : IntKind.i64.wrap (N : Int) = (N : Int) := IntWalk.i64_in _ (by have := HN.out; omega)
  obtain ⟨ga, ca, hca, hg1, hla, -⟩ := HO1.out.look HT1.out
  obtain ⟨gb, cb, hcb, hg2, hlb, -⟩ := HO2.out.look HT2.out
  have HC1 : Hid (∀ W, Kc w w6 W a b → W.cell? ⟨g1, N, none⟩ = some (.slice (some ⟨ga, 0, none⟩) t.length ca)) := Lib.hid (fun W h => (h.far.cell (p := ⟨g1, N, none⟩) hg1).trans hca)
  have HC2 : Hid (∀ W, Kc w w6 W a b → W.cell? ⟨g2, N, none⟩ = some (.slice (some ⟨gb, 0, none⟩) s.length cb)) := Lib.hid (fun W h => (h.far.cell (p := ⟨g2, N, none⟩) hg2).trans hcb)
  have HX1 : Hid (∀ W, Kc w w6 W a b → Calls Tryd.prog 47 #[.slice (some ⟨ga, 0, none⟩) t.length ca] W (Hash.GivesA (D1.map bv) W)) := Lib.hid (fun W h => HS1.out W ga ca ((hla.below h.far).more h.far.size) (HTT.out.on h.c.v.z))
  have HX2 : Hid (∀ W, Kc w w6 W a b → Calls Tryd.prog 47 #[.slice (some ⟨gb, 0, none⟩) s.length cb] W (Hash.GivesA (D2.map bv) W)) := Lib.hid (fun W h => HS2.out W gb cb ((hlb.below h.far).more h.far.size) (HTT.out.on h.c.v.z))
  have HEQ : Hid (∀ W, Kc w w6 W a b → (Op.equalIn 10000 29 (.agg (D1.map bv).toArray) (.agg (D2.map bv).toArray)).run Tryd.prog W = .ok (D1 == D2) W) := Lib.hid (fun W _ => HE.out W)
  have YK : Kc w w6 w6 a b := ⟨Y, Below.refl _ _⟩
  clear hca hcb hla hlb Y
  refine QTail.whole (fun W => Kc w w6 W a b) (by kernel_rfl) (by kernel_rfl) (YK.on (Hash.belowD _)) ?_
  (refine wpQuiet_step (fun K hK => ?_); go_simp; (first | refine hK _ ?_ | refine ⟨_, fun _ _ => rfl, hK _ ?_⟩); clear hK K)
  (refine wpQuiet_step (fun K hK => ?_); go_simp; (first | refine hK _ ?_ | refine ⟨_, fun _ _ => rfl, hK _ ?_⟩); clear hK K)
  (refine wpQuiet_step (fun K hK => ?_); go_simp; (first | refine hK _ ?_ | refine ⟨_, fun _ _ => rfl, hK _ ?_⟩); clear hK K)
  (refine wpQuiet_step (fun K hK => ?_); go_simp; (first | refine hK _ ?_ | refine ⟨_, fun _ _ => rfl, hK _ ?_⟩); clear hK K)
  (refine wpQuiet_step (fun K hK => ?_); go_simp; (first | refine hK _ ?_ | refine ⟨_, fun _ _ => rfl, hK _ ?_⟩); clear hK K)
  (refine wpQuiet_step (fun K hK => ?_); go_simp; (first | refine hK _ ?_ | refine ⟨_, fun _ _ => rfl, hK _ ?_⟩); clear hK K)
  (refine wpQuiet_step (fun K hK => ?_); go_simp; (first | refine hK _ ?_ | refine ⟨_, fun _ _ => rfl, hK _ ?_⟩); clear hK K)
  (refine wpQuiet_step (fun K hK => ?_); go_simp; (first | refine hK _ ?_ | refine ⟨_, fun _ _ => rfl, hK _ ?_⟩); clear hK K)
  (refine wpQuiet_step (fun K hK => ?_); go_simp; (first | refine hK _ ?_ | refine ⟨_, fun _ _ => rfl, hK _ ?_⟩); clear hK K)
  (refine wpQuiet_step (fun K hK => ?_); go_simp; (first | refine hK _ ?_ | refine ⟨_, fun _ _ => rfl, hK _ ?_⟩); clear hK K)
  (refine wpQuiet_step (fun K hK => ?_); go_simp; (first | refine hK _ ?_ | refine ⟨_, fun _ _ => rfl, hK _ ?_⟩); clear hK K)
  (refine wpQuiet_step (fun K hK => ?_); go_simp; refine ⟨.pointer (some ⟨g1, N, none⟩), fun W hW => ?_, hK _ ?_⟩; (first | (rw [if_pos (by omega)]; exact ⟨rfl, rfl⟩) | (rw [if_pos (by omega)]; rfl) | exact ⟨rfl, rfl⟩ | rfl); clear hK K)
  (refine wpQuiet_step (fun K hK => ?_); go_simp; refine ⟨(.slice (some ⟨ga, 0, none⟩) t.length ca), fun W hW => ?_, hK _ ?_⟩; (first | (rw [HC1.out W hW]; exact ⟨rfl, rfl⟩) | (rw [HC1.out W hW]; rfl)); clear hK K)
  (refine wpQuiet_step (fun K hK => ?_); go_simp; refine ⟨_, fun W hW => (HX1.out W hW).mono fun e w' ⟨he, hb⟩ => ⟨he, hW.on hb⟩, hK _ ?_⟩; clear hK K)
  (refine wpQuiet_step (fun K hK => ?_); go_simp; (first | refine hK _ ?_ | refine ⟨_, fun _ _ => rfl, hK _ ?_⟩); clear hK K)
  (refine wpQuiet_step (fun K hK => ?_); go_simp; (first | refine hK _ ?_ | refine ⟨_, fun _ _ => rfl, hK _ ?_⟩); clear hK K)
  (refine wpQuiet_step (fun K hK => ?_); go_simp; (first | refine hK _ ?_ | refine ⟨_, fun _ _ => rfl, hK _ ?_⟩); clear hK K)
  (refine wpQuiet_step (fun K hK => ?_); go_simp; (first | refine hK _ ?_ | refine ⟨_, fun _ _ => rfl, hK _ ?_⟩); clear hK K)
  (refine wpQuiet_step (fun K hK => ?_); go_simp; refine ⟨.pointer (some ⟨g2, N, none⟩), fun W hW => ?_, hK _ ?_⟩; (first | (rw [if_pos (by omega)]; exact ⟨rfl, rfl⟩) | (rw [if_pos (by omega)]; rfl) | exact ⟨rfl, rfl⟩ | rfl); clear hK K)
  (refine wpQuiet_step (fun K hK => ?_); go_simp; refine ⟨(.slice (some ⟨gb, 0, none⟩) s.length cb), fun W hW => ?_, hK _ ?_⟩; (first | (rw [HC2.out W hW]; exact ⟨rfl, rfl⟩) | (rw [HC2.out W hW]; rfl)); clear hK K)
  (refine wpQuiet_step (fun K hK => ?_); go_simp; refine ⟨_, fun W hW => (HX2.out W hW).mono fun e w' ⟨he, hb⟩ => ⟨he, hW.on hb⟩, hK _ ?_⟩; clear hK K)
  (refine wpQuiet_step (fun K hK => ?_); go_simp; refine ⟨(.bool (!(D1 == D2))), fun W hW => ?_, hK _ ?_⟩; (first | (rw [HEQ.out W hW]; exact ⟨rfl, rfl⟩) | (rw [HEQ.out W hW]; rfl)); clear hK K)
  (refine wpQuiet_step (fun K hK => ?_); go_simp; (first | refine hK _ ?_ | refine ⟨_, fun _ _ => rfl, hK _ ?_⟩); clear hK K)
  refine wpQuiet_nil ?_
  clear YK
  intro w7 Y
  by_cases hD : D1 = D2
  · have e1 : (!(D1 == D2)) = false := by simp [hD]
    rw [e1]
    have HR2 : Hid (R = firstDiff K1 K2) := Lib.hid (by rw [HR.out, if_pos hD])
    clear e1 hD HC1 HC2 HX1 HX2 HEQ HE HS1 HS2 HR
    go_wp2
    go_loopw [17] (fun kv wr => ∃ (mm : Nat), Hid (mm ≤ N + 1) ∧ kv = .int .i64 ((mm : Int) - 1) ∧ Hid (R = firstDiff (K1.drop (N + 1 - mm)) (K2.drop (N + 1 - mm))) ∧ Kc w w6 wr a b) (fun kv _ => (intOf kv + 1).toNat)
    case atStart => exact ⟨N + 1, Lib.hid (Nat.le_refl _), by rw [y5], Lib.hid (by rw [HR2.out, Nat.sub_self, HZ0.out]), Y⟩
    case round =>
      clear Y
      obtain ⟨mm, hmm, rfl, HT, Y⟩ := hrel
      cases mm with
      | zero =>
        obtain rfl : R = none := by rw [HT.out]; exact HZ.out
        have e0 : (((0 : Nat) : Int) - 1) = -1 := rfl
        rw [e0]
        have hth : wr.there (w.heap.size + 1 + 1) 0 3 := by obtain ⟨zs, hz⟩ := Y.c.r; exact hz.there
        go_wp2_with (first
          | (refine build_c0 rfl rfl ?_)
          | (refine store_c (.tmp 12) (.tmp 85) rfl rfl (w.heap.size + 1 + 1) rfl (A := none) (B := none) (n := 0) (m := 0) (c := 0) (d := 0) (b := false) rfl hth ?_))
        have HE := Y.c.fin (.slice none 0 0) (.slice none 0 0) false
        refine bodyPost_ret (v := .agg (cellsC (.slice none 0 0) (.slice none 0 0) false).toArray) ?_ rfl ⟨_, _, rfl, HE.2, rfl, rfl⟩
        simp [results, Tryd.results23, asAddr, Act.put]
        rw [HE.1]
      | succ k =>
        have hk : k ≤ N := Nat.le_of_succ_le_succ hmm.out
        have e0 : (((k + 1 : Nat) : Int) - 1) = (k : Int) := by omega
        rw [e0]
        obtain ⟨x, hxm, hxa, hxd⟩ := HV1.out k hk
        obtain ⟨y, hym, hya, hyd⟩ := HV2.out k hk
        obtain ⟨ga, ca, hca, hg1, hla, hma⟩ := HO1.out.look hxa
        obtain ⟨gb, cb, hcb, hg2, hlb, hmb⟩ := HO2.out.look hya
        have HC1 : Hid (∀ W, Kc w w6 W a b → W.cell? ⟨g1, k, none⟩ = some (.slice (some ⟨ga, 0, none⟩) x.length ca)) := Lib.hid (fun W h => (h.far.cell (p := ⟨g1, k, none⟩) hg1).trans hca)
        have HC2 : Hid (∀ W, Kc w w6 W a b → W.cell? ⟨g2, k, none⟩ = some (.slice (some ⟨gb, 0, none⟩) y.length cb)) := Lib.hid (fun W h => (h.far.cell (p := ⟨g2, k, none⟩) hg2).trans hcb)
        have HV3 : Hid (∀ W, Kc w w6 W a b → (convert 38 9 (.slice (some ⟨ga, 0, none⟩) x.length ca)).run Tryd.prog W = .ok (.string ⟨x.toArray⟩) W) := Lib.hid (fun W h => Hash.convL ((hla.below h.far).more h.far.size))
        have HV4 : Hid (∀ W, Kc w w6 W a b → (convert 38 9 (.slice (some ⟨gb, 0, none⟩) y.length cb)).run Tryd.prog W = .ok (.string ⟨y.toArray⟩) W) := Lib.hid (fun W h => Hash.convL ((hlb.below h.far).more h.far.size))
        have HT3 : Hid (R = firstDiff (x :: K1.drop (N + 1 - k)) (y :: K2.drop (N + 1 - k))) := Lib.hid (by rw [HT.out, show N + 1 - (k + 1) = N - k by omega, hxd, hyd])
        have HMA := Lib.hid hma
        have HMB := Lib.hid hmb
        have z0 : (0 : Int) ≤ (k : Int) := by omega
        have z1 : (k : Int) < ((N + 1 : Nat) : Int) := by omega
        have z2 : k < N + 1 := by omega
        have HK0 := Lib.hid hk
        have z5 : IntKind.i64.wrap ((k : Int) - 1) = (k : Int) - 1 := IntWalk.i64_in _ (by have := HN.out; omega)
        have z6 : wrap64 ((k : Int) - 1) = (k : Int) - 1 := by have := HN.out; simp only [wrap64]; omega
        clear hxm hxa hxd hym hya hyd hca hcb hla hlb hma hmb HT hk hmm
        go_wp2
        refine QTail.whole (fun W => Kc w w6 W a b) (by kernel_rfl) (by kernel_rfl) (Y.on (Hash.belowD _)) ?_
        (refine wpQuiet_step (fun K hK => ?_); go_simp; (first | refine hK _ ?_ | refine ⟨_, fun _ _ => rfl, hK _ ?_⟩); clear hK K)
        (refine wpQuiet_step (fun K hK => ?_); go_simp; (first | refine hK _ ?_ | refine ⟨_, fun _ _ => rfl, hK _ ?_⟩); clear hK K)
        (refine wpQuiet_step (fun K hK => ?_); go_simp; refine ⟨.pointer (some ⟨g1, k, none⟩), fun W hW => ?_, hK _ ?_⟩; (first | (rw [if_pos (by omega)]; exact ⟨rfl, rfl⟩) | (rw [if_pos (by omega)]; rfl) | exact ⟨rfl, rfl⟩ | rfl); clear hK K)
        (refine wpQuiet_step (fun K hK => ?_); go_simp; refine ⟨(.slice (some ⟨ga, 0, none⟩) x.length ca), fun W hW => ?_, hK _ ?_⟩; (first | (rw [HC1.out W hW]; exact ⟨rfl, rfl⟩) | (rw [HC1.out W hW]; rfl)); clear hK K)
        (refine wpQuiet_step (fun K hK => ?_); go_simp; refine ⟨(.string ⟨x.toArray⟩), fun W hW => ?_, hK _ ?_⟩; (first | (rw [HV3.out W hW]; exact ⟨rfl, rfl⟩) | (rw [HV3.out W hW]; rfl)); clear hK K)
        (refine wpQuiet_step (fun K hK => ?_); go_simp; (first | refine hK _ ?_ | refine ⟨_, fun _ _ => rfl, hK _ ?_⟩); clear hK K)
        (refine wpQuiet_step (fun K hK => ?_); go_simp; (first | refine hK _ ?_ | refine ⟨_, fun _ _ => rfl, hK _ ?_⟩); clear hK K)
        (refine wpQuiet_step (fun K hK => ?_); go_simp; refine ⟨.pointer (some ⟨g2, k, none⟩), fun W hW => ?_, hK _ ?_⟩; (first | (rw [if_pos (by omega)]; exact ⟨rfl, rfl⟩) | (rw [if_pos (by omega)]; rfl) | exact ⟨rfl, rfl⟩ | rfl); clear hK K)
        (refine wpQuiet_step (fun K hK => ?_); go_simp; refine ⟨(.slice (some ⟨gb, 0, none⟩) y.length cb), fun W hW => ?_, hK _ ?_⟩; (first | (rw [HC2.out W hW]; exact ⟨rfl, rfl⟩) | (rw [HC2.out W hW]; rfl)); clear hK K)
        (refine wpQuiet_step (fun K hK => ?_); go_simp; refine ⟨(.string ⟨y.toArray⟩), fun W hW => ?_, hK _ ?_⟩; (first | (rw [HV4.out W hW]; exact ⟨rfl, rfl⟩) | (rw [HV4.out W hW]; rfl)); clear hK K)
        (refine wpQuiet_step (fun K hK => ?_); go_simp; (first | refine hK _ ?_ | refine ⟨_, fun _ _ => rfl, hK _ ?_⟩); clear hK K)
        refine wpQuiet_nil ?_
        clear Y
        intro w8 Y
        by_cases hxy : x = y
        · have e1 : (!x == y) = false := by simp [hxy]
          rw [e1]
          have HT4 : Hid (R = firstDiff (K1.drop (N + 1 - k)) (K2.drop (N + 1 - k))) := Lib.hid (by rw [HT3.out, firstDiff, if_pos hxy])
          clear hxy e1 HT3
          go_wp2
          go_roundw
          case rel => exact ⟨k, Lib.hid (Nat.le_of_lt z2), rfl, HT4, Y⟩
          case measure => simp [intOf]
        · have e1 : (!x == y) = true := by simpa using hxy
          rw [e1]
          have HT4 : Hid (R = some (x, y)) := Lib.hid (by rw [HT3.out, firstDiff, if_neg hxy])
          clear hxy e1 HT3
          go_wp2
          refine QTail.region (C := fun W => Kc w w6 W a b) 8 (by kernel_rfl) (by kernel_rfl) (Y.on (Hash.belowD _)) ?_
          (refine wpQuiet_step (fun K hK => ?_); go_simp; (first | refine hK _ ?_ | refine ⟨_, fun _ _ => rfl, hK _ ?_⟩); clear hK K)
          (refine wpQuiet_step (fun K hK => ?_); go_simp; (first | refine hK _ ?_ | refine ⟨_, fun _ _ => rfl, hK _ ?_⟩); clear hK K)
          (refine wpQuiet_step (fun K hK => ?_); go_simp; refine ⟨.pointer (some ⟨g1, k, none⟩), fun W hW => ?_, hK _ ?_⟩; (first | (rw [if_pos (by omega)]; exact ⟨rfl, rfl⟩) | (rw [if_pos (by omega)]; rfl) | exact ⟨rfl, rfl⟩ | rfl); clear hK K)
          (refine wpQuiet_step (fun K hK => ?_); go_simp; refine ⟨(.slice (some ⟨ga, 0, none⟩) x.length ca), fun W hW => ?_, hK _ ?_⟩; (first | (rw [HC1.out W hW]; exact ⟨rfl, rfl⟩) | (rw [HC1.out W hW]; rfl)); clear hK K)
          (refine wpQuiet_step (fun K hK => ?_); go_simp; (first | refine hK _ ?_ | refine ⟨_, fun _ _ => rfl, hK _ ?_⟩); clear hK K)
          (refine wpQuiet_step (fun K hK => ?_); go_simp; (first | refine hK _ ?_ | refine ⟨_, fun _ _ => rfl, hK _ ?_⟩); clear hK K)
          (refine wpQuiet_step (fun K hK => ?_); go_simp; refine ⟨.pointer (some ⟨g2, k, none⟩), fun W hW => ?_, hK _ ?_⟩; (first | (rw [if_pos (by omega)]; exact ⟨rfl, rfl⟩) | (rw [if_pos (by omega)]; rfl) | exact ⟨rfl, rfl⟩ | rfl); clear hK K)
          (refine wpQuiet_step (fun K hK => ?_); go_simp; refine ⟨(.slice (some ⟨gb, 0, none⟩) y.length cb), fun W hW => ?_, hK _ ?_⟩; (first | (rw [HC2.out W hW]; exact ⟨rfl, rfl⟩) | (rw [HC2.out W hW]; rfl)); clear hK K)
          refine wpQuiet_nil ?_
          clear Y
          intro w9 Y
          simp only [List.drop_succ_cons, List.drop_zero]
          have hth : w9.there (w.heap.size + 1 + 1) 0 3 := by obtain ⟨zs, hz⟩ := Y.c.r; exact hz.there
          go_wp2_with (first
            | (refine build_c (.tmp 79) (.tmp 83) (.const (.bool true)) rfl rfl rfl rfl rfl ?_)
            | (refine store_c (.tmp 12) (.tmp 84) rfl rfl (w.heap.size + 1 + 1) rfl (A := some ⟨ga, 0, none⟩) (B := some ⟨gb, 0, none⟩) (n := x.length) (m := y.length) (c := ca) (d := cb) (b := true) rfl hth ?_))
          have HE := Y.c.fin (.slice (some ⟨ga, 0, none⟩) x.length ca) (.slice (some ⟨gb, 0, none⟩) y.length cb) true
          obtain rfl := HT4.out
          refine bodyPost_ret (v := .agg (cellsC (.slice (some ⟨ga, 0, none⟩) x.length ca) (.slice (some ⟨gb, 0, none⟩) y.length cb) true).toArray) ?_ rfl ⟨_, _, rfl, HE.2, ((HMA.out.on Y.far).cells (by omega) _).more (by omega), ((HMB.out.on Y.far).cells (by omega) _).more (by omega)⟩
          simp [results, Tryd.results23, asAddr, Act.put]
          rw [HE.1]
  · obtain rfl : R = none := by rw [HR.out, if_neg hD]
    have e1 : (!(D1 == D2)) = true := by simpa using hD
    rw [e1]
    have hth : w7.there (w.heap.size + 1 + 1) 0 3 := by obtain ⟨zs, hz⟩ := Y.c.r; exact hz.there
    clear e1 hD HC1 HC2 HX1 HX2 HEQ HE HS1 HS2 HR
    go_wp2_with (first
      | (refine build_c0 rfl rfl ?_)
      | (refine store_c (.tmp 12) (.tmp 57) rfl rfl (w.heap.size + 1 + 1) rfl (A := none) (B := none) (n := 0) (m := 0) (c := 0) (d := 0) (b := false) rfl hth ?_))
    have HE := Y.c.fin (.slice none 0 0) (.slice none 0 0) false
    refine bodyPost_ret (v := .agg (cellsC (.slice none 0 0) (.slice none 0 0) false).toArray) ?_ rfl ⟨_, _, rfl, HE.2, rfl, rfl⟩
    simp [results, Tryd.results23, asAddr, Act.put]
    rw [HE.1]
end Mk
end Go.Proofs.YthpkeaafgabjiaaDoor

