/- MPart; MSib: what each of these parts proves stands ahead of it. -/
import Derived.Test.YthpkeaafgabjiaaDoorM20
import Derived.Test.YthpkeaafgabjiaaDoorM5
import Derived.Test.YthpkeaafgabjiaaDoorM22
import Derived.Test.YthpkeaafgabjiaaDoorM9
/- The package merkle: parts of a list (two numbers in a block), split. Condition: a part has at least 2 elements. -/
namespace Go.Proofs.YthpkeaafgabjiaaDoor
open Go.RowKit
namespace Mk
open Hash (Arr bcj)

def ptc (a b : Nat) : List Value := [.int .i64 (a : Int), .int .i64 (b : Int)]
/-- A part as a value. -/
def ptv (a b : Nat) : Value := .agg #[.int .i64 (a : Int), .int .i64 (b : Int)]
theorem row_pt : ∃ d, Tryd.prog.underlying 69 = some d ∧ d.isRow = true := ⟨_, Tryd.underlying69, rfl⟩
theorem info_pt (a b : Nat) : (Tryd.prog.info? 69).map (·.size) = some (ptc a b).length := by
  show _ = some 2
  kernel_rfl
theorem info_ptA (a b : Nat) : (Tryd.prog.info? 69).map (·.size) = some (ptc a b).toArray.size := info_pt a b
theorem one_pt (a b : Nat) : ((ptc a b).toArray).all (·.oneCell') = true := by simp [ptc, Value.oneCell']
/-- A part lies in a block of its own. -/
structure Pt (W : World) (g : Nat) (a b : Nat) : Prop where
  arr : Arr W g 2 (ptc a b)
section
variable {W W' : World} {g a b : Nat}
theorem Pt.lt (h : Pt W g a b) : g < W.heap.size := h.arr.size (by omega)
theorem Pt.on (h : Pt W g a b) (hb : Below W.heap.size W W') : Pt W' g a b := ⟨h.arr.below hb h.lt⟩
theorem Pt.lo (h : Pt W g a b) : W.cell? ⟨g, 0, none⟩ = some (.int .i64 (a : Int)) := h.arr.cells 0 _ rfl
theorem Pt.hi (h : Pt W g a b) : W.cell? ⟨g, 1, none⟩ = some (.int .i64 (b : Int)) := h.arr.cells 1 _ rfl
theorem Pt.range (h : Pt W g a b) : W.rangeAt g 0 (ptc a b) := h.arr.range
theorem Pt.there (h : Pt W g a b) : W.there g 0 2 := h.arr.there
theorem Pt.put {c d : Nat} (h : Pt W g a b) : Pt (W.setCells g 0 (ptc c d)) g c d := ⟨h.arr.over rfl⟩
theorem Pt.aside {k : Nat} (h : Pt W g a b) (hk : g ≠ k) (xs : List Value) : Pt (W.setCells k 0 xs) g a b := ⟨h.arr.aside hk _⟩
theorem pt_new (W : World) (a b : Nat) (t : TypeId) : Pt (W.alloc (.cells #[.int .i64 (a : Int), .int .i64 (b : Int)] t)) W.heap.size a b := ⟨Hash.arr_new W #[.int .i64 (a : Int), .int .i64 (b : Int)] t⟩
end
section
variable {ops : Array Oper} {rest : List Oper} {o : Oper} {a : Act} {w : World} {Q : Exit → Act → World → Prop}
theorem load_pt (k : Tmp) (_hk : o.dst = some k) (hgd : o.guard = none) (x : Operand) (ho : o.op = .load 69 x) (g off : Nat) (hx : a.eval x = .pointer (some ⟨g, off, none⟩)) (c d : Nat) (hr : w.rangeAt g off (ptc c d))
    (h : wpList Tryd.prog ops Q rest (a.put o.dst (ptv c d)) w) : wpList Tryd.prog ops Q (o :: rest) a w := by
  obtain ⟨_, hu, hd⟩ := row_pt
  exact wpList_load_mid hgd 69 x ho g off hx (ptc c d) _ hr hu hd (info_pt c d) h
theorem store_pt (x y : Operand) (ho : o.op = .store 69 x y) (hgd : o.guard = none) (g off : Nat) (hx : a.eval x = .pointer (some ⟨g, off, none⟩)) (c d : Nat) (hy : a.eval y = ptv c d) (ht : w.there g off 2)
    (h : wpList Tryd.prog ops Q rest (a.put o.dst undef) (w.setCells g off (ptc c d))) : wpList Tryd.prog ops Q (o :: rest) a w :=
  wpList_store_mid hgd 69 x y ho g off (ptc c d).toArray hx hy ht (info_ptA c d) (one_pt c d) h
end
theorem half_b (n : Nat) (h2 : 2 ≤ n) (hn : n ≤ 9223372036854775807) (w : World) :
    Calls Tryd.prog 41 #[.int .i64 (n : Int)] w fun e w' => e = .returned (.int .i64 (split n : Int)) ∧ Below w.heap.size w w' :=
  (half_any n h2 hn w).mono fun e w' ⟨h1, h2⟩ => ⟨h1, by rw [h2]; exact Below.refl _ _⟩

/-- The part that is cut, and room for its two. -/
structure Sp (w W : World) (a b c d e f : Nat) : Prop where
  p : Pt W w.heap.size a b
  l : Pt W (w.heap.size + 1) c d
  r : Pt W (w.heap.size + 1 + 1) e f
  z : Below w.heap.size w W
theorem Sp.on {w W W' : World} {a b c d e f : Nat} (h : Sp w W a b c d e f) (hb : Below W.heap.size W W') : Sp w W' a b c d e f := ⟨h.p.on hb, h.l.on hb, h.r.on hb, bcj h.z hb⟩
theorem sp_new (w : World) (a b : Nat) (t : TypeId) : Sp w (((w.alloc (.cells #[.int .i64 (a : Int), .int .i64 (b : Int)] t)).alloc (.cells #[.int .i64 0, .int .i64 0] t)).alloc (.cells #[.int .i64 0, .int .i64 0] t)) a b 0 0 0 0 := by
  have z0 := Wire.b1 w (.cells #[.int .i64 (a : Int), .int .i64 (b : Int)] t)
  have z1 := Wire.b1 (w.alloc (.cells #[.int .i64 (a : Int), .int .i64 (b : Int)] t)) (.cells #[.int .i64 0, .int .i64 0] t)
  have z2 := Wire.b1 ((w.alloc (.cells #[.int .i64 (a : Int), .int .i64 (b : Int)] t)).alloc (.cells #[.int .i64 0, .int .i64 0] t)) (.cells #[.int .i64 0, .int .i64 0] t)
  have P := ((pt_new w a b t).on z1).on z2
  have L := pt_new (w.alloc (.cells #[.int .i64 (a : Int), .int .i64 (b : Int)] t)) 0 0 t
  have R := pt_new ((w.alloc (.cells #[.int .i64 (a : Int), .int .i64 (b : Int)] t)).alloc (.cells #[.int .i64 0, .int .i64 0] t)) 0 0 t
  have L2 := L.on z2
  rw [Wire.size_alloc] at L2
  rw [Wire.size_alloc, Wire.size_alloc] at R
  exact ⟨P, L2, R, bcj (bcj z0 z1) z2⟩
theorem Sp.fin {w W : World} {a b c d e f c2 d2 e2 f2 : Nat} (h : Sp w W a b c d e f) :
    (loadVar 69 ⟨w.heap.size + 1, 0, none⟩).run Tryd.prog ((W.setCells (w.heap.size + 1) 0 (ptc c2 d2)).setCells (w.heap.size + 1 + 1) 0 (ptc e2 f2)) = .ok (ptv c2 d2) ((W.setCells (w.heap.size + 1) 0 (ptc c2 d2)).setCells (w.heap.size + 1 + 1) 0 (ptc e2 f2)) ∧
    (loadVar 69 ⟨w.heap.size + 1 + 1, 0, none⟩).run Tryd.prog ((W.setCells (w.heap.size + 1) 0 (ptc c2 d2)).setCells (w.heap.size + 1 + 1) 0 (ptc e2 f2)) = .ok (ptv e2 f2) ((W.setCells (w.heap.size + 1) 0 (ptc c2 d2)).setCells (w.heap.size + 1 + 1) 0 (ptc e2 f2)) ∧
    Below w.heap.size w ((W.setCells (w.heap.size + 1) 0 (ptc c2 d2)).setCells (w.heap.size + 1 + 1) 0 (ptc e2 f2)) := by
  obtain ⟨_, hu, hd⟩ := row_pt
  have l2 : Pt (W.setCells (w.heap.size + 1) 0 (ptc c2 d2)) (w.heap.size + 1) c2 d2 := h.l.put
  have l3 : Pt ((W.setCells (w.heap.size + 1) 0 (ptc c2 d2)).setCells (w.heap.size + 1 + 1) 0 (ptc e2 f2)) (w.heap.size + 1) c2 d2 := l2.aside (by omega) _
  have r2 : Pt (W.setCells (w.heap.size + 1) 0 (ptc c2 d2)) (w.heap.size + 1 + 1) e f := h.r.aside (by omega) _
  have r3 : Pt ((W.setCells (w.heap.size + 1) 0 (ptc c2 d2)).setCells (w.heap.size + 1 + 1) 0 (ptc e2 f2)) (w.heap.size + 1 + 1) e2 f2 := r2.put
  exact ⟨run_loadVar_mid _ _ _ _ _ _ l3.range hu hd (info_pt _ _), run_loadVar_mid _ _ _ _ _ _ r3.range hu hd (info_pt _ _),
    (h.z.trans (Hash.below_cells (B := w.heap.size) (by omega) _ _ _)).trans (Hash.below_cells (B := w.heap.size) (by omega) _ _ _)⟩

/-- Two parts are returned; the memory that was there is as it was. -/
def GivesPP (a b c d : Nat) (w : World) (e : Ending) (w' : World) : Prop := e = .returned (.tuple #[ptv a b, ptv c d]) ∧ Below w.heap.size w w'

set_option maxRecDepth 100000 in
set_option maxHeartbeats 1000000 in
theorem split_any (a b k : Nat) (h2 : 2 ≤ b - a) (hb : b ≤ 9223372036854775807) (hk : k = a + split (b - a)) (w : World) :
    Calls Tryd.prog 58 #[ptv a b] w (GivesPP a k k b w) := by
  have HH2 := Lib.hid (fun W => half_b (b - a) h2 (by omega) W)
  have hlt := split_lt h2
  have e1 : IntKind.i64.wrap ((b : Int) - (a : Int)) = ((b - a : Nat) : Int) := by rw [IntKind.wrap_i64]; omega
  have e2 : IntKind.i64.wrap ((a : Int) + (split (b - a) : Int)) = (k : Int) := by rw [IntKind.wrap_i64]; omega
  have CL : Hid (∀ W, Sp w W a b 0 0 0 0 → W.cell? ⟨w.heap.size, 0, none⟩ = some (.int .i64 (a : Int))) := Lib.hid (fun W h => h.p.lo)
  have CH : Hid (∀ W, Sp w W a b 0 0 0 0 → W.cell? ⟨w.heap.size, 1, none⟩ = some (.int .i64 (b : Int))) := Lib.hid (fun W h => h.p.hi)
  have Y0 := Lib.hid (sp_new w a b 69)
  clear hk hlt
  generalize split (b - a) = s at *
  generalize b - a = n at *
  unfold ptv
  go_enter Tryd.func58, Tryd.ntmps58
  go_wp2
  refine QTail.whole (C := fun W => Sp w W a b 0 0 0 0) (by kernel_rfl) (by kernel_rfl) (Y0.out.on (Hash.belowD _)) ?_
  (refine wpQuiet_step (fun K hK => ?_); go_simp; refine ⟨.pointer (some ⟨w.heap.size, 0, none⟩), fun W hW => ?_, hK _ ?_⟩; (first | (rw [if_pos (by omega)]; exact ⟨rfl, rfl⟩) | (rw [if_pos (by omega)]; rfl) | exact ⟨rfl, rfl⟩ | rfl); clear hK K)
  (refine wpQuiet_step (fun K hK => ?_); go_simp; refine ⟨(.int .i64 (a : Int)), fun W hW => ?_, hK _ ?_⟩; (first | (rw [CL.out W hW]; exact ⟨rfl, rfl⟩) | (rw [CL.out W hW]; rfl)); clear hK K)
  (refine wpQuiet_step (fun K hK => ?_); go_simp; refine ⟨.pointer (some ⟨w.heap.size, 1, none⟩), fun W hW => ?_, hK _ ?_⟩; (first | (rw [if_pos (by omega)]; exact ⟨rfl, rfl⟩) | (rw [if_pos (by omega)]; rfl) | exact ⟨rfl, rfl⟩ | rfl); clear hK K)
  (refine wpQuiet_step (fun K hK => ?_); go_simp; refine ⟨(.int .i64 (b : Int)), fun W hW => ?_, hK _ ?_⟩; (first | (rw [CH.out W hW]; exact ⟨rfl, rfl⟩) | (rw [CH.out W hW]; rfl)); clear hK K)
  (refine wpQuiet_step (fun K hK => ?_); go_simp; refine ⟨.pointer (some ⟨w.heap.size, 0, none⟩), fun W hW => ?_, hK _ ?_⟩; (first | (rw [if_pos (by omega)]; exact ⟨rfl, rfl⟩) | (rw [if_pos (by omega)]; rfl) | exact ⟨rfl, rfl⟩ | rfl); clear hK K)
  (refine wpQuiet_step (fun K hK => ?_); go_simp; refine ⟨(.int .i64 (a : Int)), fun W hW => ?_, hK _ ?_⟩; (first | (rw [CL.out W hW]; exact ⟨rfl, rfl⟩) | (rw [CL.out W hW]; rfl)); clear hK K)
  (refine wpQuiet_step (fun K hK => ?_); go_simp; (first | refine hK _ ?_ | refine ⟨_, fun _ _ => rfl, hK _ ?_⟩); clear hK K)
  (refine wpQuiet_step (fun K hK => ?_); go_simp; refine ⟨_, fun W hW => (HH2.out W).mono fun e w' ⟨he, hb⟩ => ⟨he, hW.on hb⟩, hK _ ?_⟩; clear hK K)
  (refine wpQuiet_step (fun K hK => ?_); go_simp; (first | refine hK _ ?_ | refine ⟨_, fun _ _ => rfl, hK _ ?_⟩); clear hK K)
  (refine wpQuiet_step (fun K hK => ?_); go_simp; (first | refine hK _ ?_ | refine ⟨_, fun _ _ => rfl, hK _ ?_⟩); clear hK K)
  refine wpQuiet_nil ?_
  clear Y0
  intro w1 Y
  go_wp2
  refine RegC.region (fun W => ∃ c d e f, Sp w W a b c d e f) [] (by kernel_rfl) ?_
  have CL2 : Hid (∀ W, (∃ c d e f, Sp w W a b c d e f) → W.cell? ⟨w.heap.size, 0, none⟩ = some (.int .i64 (a : Int))) := Lib.hid (fun W ⟨_, _, _, _, h⟩ => h.p.lo)
  have CH2 : Hid (∀ W, (∃ c d e f, Sp w W a b c d e f) → W.cell? ⟨w.heap.size, 1, none⟩ = some (.int .i64 (b : Int))) := Lib.hid (fun W ⟨_, _, _, _, h⟩ => h.p.hi)
  clear CL CH
  have Y2 := Lib.hid (Y.on (Hash.belowD _))
  clear Y
  have Y : ∃ c d e f, Sp w (World.drew w1) a b c d e f := ⟨_, _, _, _, Y2.out⟩
  (refine RegC.take (i := 0) (v := ?_) rfl (by kernel_rfl) (by kernel_rfl) (by kernel_rfl) (by kernel_rfl) (by kernel_rfl) (fun _ _ _ h => h) (Or.inl ⟨by rfl, ?_⟩) Y ?_; rotate_left 1; focus (intro W hW; go_simp; try (first | with_reducible rfl | (rw [if_pos (by omega)]; done) | (rw [if_pos (by omega), if_neg (by omega)]; done) | (rw [if_neg (by omega)]; done))))
  (refine RegC.take (i := 1) (v := (.int .i64 (a : Int))) rfl (by kernel_rfl) (by kernel_rfl) (by kernel_rfl) (by kernel_rfl) (by kernel_rfl) (fun _ _ _ h => h) (Or.inl ⟨by rfl, ?_⟩) Y ?_; focus (intro W hW; go_simp; first | (rw [CL2.out W hW]; rfl) | (rw [CL2.out W hW]; done) | (simp only [CL2.out W hW]; done)))
  (refine RegC.take (i := 2) (v := ?_) rfl (by kernel_rfl) (by kernel_rfl) (by kernel_rfl) (by kernel_rfl) (by kernel_rfl) (fun _ _ _ h => h) (Or.inl ⟨by rfl, ?_⟩) Y ?_; rotate_left 1; focus (intro W hW; go_simp; try (first | with_reducible rfl | (rw [if_pos (by omega)]; done) | (rw [if_pos (by omega), if_neg (by omega)]; done) | (rw [if_neg (by omega)]; done))))
  (refine RegC.take (i := 3) (v := ?_) rfl (by kernel_rfl) (by kernel_rfl) (by kernel_rfl) (by kernel_rfl) (by kernel_rfl) (fun _ _ _ h => h) (Or.inl ⟨by rfl, ?_⟩) Y ?_; rotate_left 1; focus (intro W hW; go_simp; try (first | with_reducible rfl | (rw [if_pos (by omega)]; done) | (rw [if_pos (by omega), if_neg (by omega)]; done) | (rw [if_neg (by omega)]; done))))
  (refine RegC.take (i := 4) (v := ?_) rfl (by kernel_rfl) (by kernel_rfl) (by kernel_rfl) (by kernel_rfl) (by kernel_rfl) (fun _ _ _ h => h) (Or.inl ⟨by rfl, ?_⟩) Y ?_; rotate_left 1; focus (intro W hW; go_simp; try (first | with_reducible rfl | (rw [if_pos (by omega)]; done) | (rw [if_pos (by omega), if_neg (by omega)]; done) | (rw [if_neg (by omega)]; done))))
  (refine RegC.take (i := 5) (v := ?_) rfl (by kernel_rfl) (by kernel_rfl) (by kernel_rfl) (by kernel_rfl) (by kernel_rfl) (fun _ _ _ h => h) (Or.inl ⟨by rfl, ?_⟩) Y ?_; rotate_left 1; focus (intro W hW; go_simp; try (first | with_reducible rfl | (rw [if_pos (by omega)]; done) | (rw [if_pos (by omega), if_neg (by omega)]; done) | (rw [if_neg (by omega)]; done))))
  (refine RegC.take (i := 6) (v := (.int .i64 (b : Int))) rfl (by kernel_rfl) (by kernel_rfl) (by kernel_rfl) (by kernel_rfl) (by kernel_rfl) (fun _ _ _ h => h) (Or.inl ⟨by rfl, ?_⟩) Y ?_; focus (intro W hW; go_simp; first | (rw [CH2.out W hW]; rfl) | (rw [CH2.out W hW]; done) | (simp only [CH2.out W hW]; done)))
  (refine RegC.take (i := 7) (v := ?_) rfl (by kernel_rfl) (by kernel_rfl) (by kernel_rfl) (by kernel_rfl) (by kernel_rfl) (fun _ _ _ h => h) (Or.inl ⟨by rfl, ?_⟩) Y ?_; rotate_left 1; focus (intro W hW; go_simp; try (first | with_reducible rfl | (rw [if_pos (by omega)]; done) | (rw [if_pos (by omega), if_neg (by omega)]; done) | (rw [if_neg (by omega)]; done))))
  have G : ∀ W p q, (∃ c d e f, Sp w W a b c d e f) → (∃ c d e f, Sp w (W.setCells (w.heap.size + 1) 0 (ptc p q)) a b c d e f) ∧ ∃ c d e f, Sp w (W.setCells (w.heap.size + 1 + 1) 0 (ptc p q)) a b c d e f := fun W p q ⟨c1, d1, e1, f1, h⟩ =>
    ⟨⟨p, q, e1, f1, h.p.aside (by omega) _, h.l.put, h.r.aside (by omega) _, h.z.trans (Hash.below_cells (B := w.heap.size) (by omega) _ _ _)⟩, ⟨c1, d1, p, q, h.p.aside (by omega) _, h.l.aside (by omega) _, h.r.put, h.z.trans (Hash.below_cells (B := w.heap.size) (by omega) _ _ _)⟩⟩
  have GL := Lib.hid (fun W c d h => (G W c d h).1)
  have GR := Lib.hid (fun W c d h => (G W c d h).2)
  clear Y G
  refine RegC.store1 8 (by kernel_rfl) rfl rfl 69 (.tmp 2) (.tmp 17) rfl (w.heap.size + 1) 0 (ptc a k).toArray (by go_simp) (by go_simp; rfl) Y2.out.l.there (info_ptA a k) (one_pt a k) (GL.out _ a k ⟨_, _, _, _, Y2.out⟩) ?_
  refine RegC.store1 9 (by kernel_rfl) rfl rfl 69 (.tmp 3) (.tmp 21) rfl (w.heap.size + 1 + 1) 0 (ptc k b).toArray (by go_simp) (by go_simp; rfl) (Y2.out.r.aside (k := w.heap.size + 1) (by omega) (ptc a k)).there (info_ptA k b) (one_pt k b) (GR.out _ k b (GL.out _ a k ⟨_, _, _, _, Y2.out⟩)) ?_
  refine RegC.done (by kernel_rfl) ?_
  go_simp
  have HE := Y2.out.fin (c2 := a) (d2 := k) (e2 := k) (f2 := b)
  go_wp2
  refine bodyPost_ret (v := .tuple #[ptv a k, ptv k b]) ?_ rfl ⟨rfl, HE.2.2⟩
  simp [results, Tryd.results58, asAddr]
  rw [HE.1]
  simp
  rw [HE.2.1]
  rfl
end Mk
end Go.Proofs.YthpkeaafgabjiaaDoor

/- The package merkle: the parts of a path and of a prefix proof. Condition: the index lies in the part. -/
namespace Go.Proofs.YthpkeaafgabjiaaDoor
open Go.RowKit
namespace Mk
open Wire (Lies own_below own_more)
open Hash (bcj)

def cellsPt (l : List (Nat × Nat)) : List Value := l.flatMap fun p => ptc p.1 p.2
theorem cellsPt_append (l m : List (Nat × Nat)) : cellsPt (l ++ m) = cellsPt l ++ cellsPt m := by simp [cellsPt]
theorem cellsPt_one (a b : Nat) : cellsPt [(a, b)] = ptc a b := by simp [cellsPt]
theorem cellsPt_length (l : List (Nat × Nat)) : (cellsPt l).length = l.length * 2 := by
  induction l with
  | nil => rfl
  | cons p l ih =>
    have : cellsPt (p :: l) = ptc p.1 p.2 ++ cellsPt l := rfl
    rw [this, List.length_append, ih, List.length_cons]
    show 2 + _ = _
    omega
theorem cellsPt_at {l : List (Nat × Nat)} {j : Nat} {p : Nat × Nat} (hp : l[j]? = some p) {i : Nat} {u : Value} (hu : (ptc p.1 p.2)[i]? = some u) : (cellsPt l)[j * 2 + i]? = some u := by
  induction l generalizing j with
  | nil => cases hp
  | cons e l ih =>
    have hc : cellsPt (e :: l) = ptc e.1 e.2 ++ cellsPt l := rfl
    have h2 : (ptc e.1 e.2).length = 2 := rfl
    rw [hc]
    cases j with
    | zero =>
      cases hp
      have := (List.getElem?_eq_some_iff.1 hu).1
      rw [Nat.zero_mul, Nat.zero_add, List.getElem?_append_left this]
      exact hu
    | succ j =>
      rw [List.getElem?_append_right (by rw [h2]; omega), h2, show (j + 1) * 2 + i - 2 = j * 2 + i by omega]
      exact ih hp
/-- A slice of parts, from base on, that nobody else has; nil let in. -/
structure OwnP (w : World) (base : Nat) (v : Value) (n : Nat) (l : List (Nat × Nat)) : Prop where
  own : w.ownsRow base 69 2 v n (cellsPt l)
section
variable {w w' : World} {base n : Nat} {v : Value} {l : List (Nat × Nat)}
theorem OwnP.len (h : OwnP w base v n l) : l.length = n := by
  have := h.own.1
  rw [cellsPt_length] at this
  omega
theorem OwnP.on (h : OwnP w base v n l) (hb : Below w.heap.size w w') : OwnP w' base v n l := ⟨own_below h.own hb⟩
theorem OwnP.more {base' : Nat} (h : OwnP w base v n l) (hb : base' ≤ base) : OwnP w base' v n l := ⟨own_more h.own hb⟩
theorem ownP_nil (w : World) (base : Nat) : OwnP w base (.slice none 0 0) 0 [] := ⟨World.ownsRow_nil _ _ _ _⟩
theorem OwnP.form (h : OwnP w base v n l) : ∃ A c, v = .slice A n c ∧ Lies w w.heap.size 2 A n c (cellsPt l) := by
  rcases h.own.2 with ⟨rfl, rfl⟩ | ⟨g, cap, cur, rfl, _⟩
  · obtain rfl := List.eq_nil_of_length_eq_zero h.len
    exact ⟨none, 0, rfl, ⟨rfl, Nat.le_refl _, Nat.zero_le _, fun h => absurd h (Nat.lt_irrefl 0), fun h => absurd h (Nat.lt_irrefl 0)⟩⟩
  · exact ⟨_, _, rfl, Wire.lies_own h.own⟩
theorem own_litP (w : World) (a b : Nat) {base : Nat} (hb : base ≤ w.heap.size) : OwnP (w.alloc (.cells #[.int .i64 (a : Int), .int .i64 (b : Int)] 69)) base (.slice (some ⟨w.heap.size, 0, none⟩) 1 1) 1 [(a, b)] :=
  ⟨by rw [cellsPt_one]; exact World.ownsRow_lit w #[.int .i64 (a : Int), .int .i64 (b : Int)] 1 hb (by decide) (by simp)⟩
end
/-- A part of a slice of parts. -/
theorem parts_row {w : World} {B n c : Nat} {A : Option Addr} {l : List (Nat × Nat)} (h : Lies w B 2 A n c (cellsPt l)) {j : Nat} {p : Nat × Nat} (hp : l[j]? = some p) : ∃ b o, A = some ⟨b, o, none⟩ ∧ b < B ∧ w.rangeAt b (o + j * 2) (ptc p.1 p.2) := by
  have hj : j < l.length := (List.getElem?_eq_some_iff.1 hp).1
  have hn := h.len
  rw [cellsPt_length] at hn
  obtain ⟨b, o, e, hb, hc⟩ := h.cells (by omega)
  refine ⟨b, o, e, hb, fun i u hu => ?_⟩
  rw [Nat.add_assoc]
  exact hc _ u (cellsPt_at hp hu)
theorem part_info : (Tryd.prog.info? 69).map (fun i => (i.zero, i.size, i.bytes)) = some (some (ptv 0 0), 2, 16) := by kernel_rfl
section
variable {ops : Array Oper} {rest : List Oper} {o : Oper} {a : Act} {w : World} {Q : Exit → Act → World → Prop}
/-- A part is appended. -/
theorem append_p (hgd : o.guard = none) (s x : Operand) (ho : o.op = .call { callee := .builtin .append, args := #[s, x], argTypes := #[66, 66] })
    (base : Nat) (v : Value) (n : Nat) (l : List (Nat × Nat)) (hs : a.eval s = v) (hown : OwnP w base v n l) (g : Nat) (hx : a.eval x = .slice (some ⟨g, 0, none⟩) 1 1) (c d : Nat) (hr : w.rangeAt g 0 (ptc c d))
    (hn : n ≤ 1099511627776) (hbase : base ≤ w.heap.size)
    (h : ∀ v' w', OwnP w' base v' (n + 1) (l ++ [(c, d)]) → Below base w w' → wpList Tryd.prog ops Q rest (a.put o.dst v') w') : wpList Tryd.prog ops Q (o :: rest) a w := by
  obtain ⟨i, hi, hz, hsz, hby⟩ := info_parts part_info
  refine wpList_append_own _ hgd s x _ ho base 69 i (ptv 0 0) 2 16 Tryd.underlying66 hi hz hsz hby rfl (by decide) v n _ hs hown.own ⟨g, 0, none⟩ 1 1 (ptc c d) hx rfl (fun j u hu => ?_) (fun u hu => ?_) (by unfold maxLen; omega) (by omega) hbase ?_
  · rw [Addr.add_mid]
    exact hr j u hu
  · simp [ptc] at hu
    rcases hu with rfl | rfl <;> rfl
  · intro v' w' ho' hg _
    refine h v' w' ⟨by rw [cellsPt_append, cellsPt_one]; exact ho'⟩ ((Below.refl _ _).grown hg hbase (fun p hp => (hown.own.lt p hp).1))
end
/-- A list of parts of one's own. -/
def GivesS (l : List (Nat × Nat)) (w : World) (e : Ending) (w' : World) : Prop := ∃ v n, e = .returned v ∧ OwnP w' w.heap.size v n l ∧ Below w.heap.size w w'
/-- Two new blocks for two parts. -/
theorem two_new (w : World) (a k b : Nat) (t : TypeId) :
    ((w.alloc (.cells #[.int .i64 0, .int .i64 0] t)).alloc (.cells #[.int .i64 0, .int .i64 0] t)).there w.heap.size 0 2 ∧
    (((w.alloc (.cells #[.int .i64 0, .int .i64 0] t)).alloc (.cells #[.int .i64 0, .int .i64 0] t)).setCells w.heap.size 0 (ptc a k)).there (w.heap.size + 1) 0 2 ∧
    Pt ((((w.alloc (.cells #[.int .i64 0, .int .i64 0] t)).alloc (.cells #[.int .i64 0, .int .i64 0] t)).setCells w.heap.size 0 (ptc a k)).setCells (w.heap.size + 1) 0 (ptc k b)) w.heap.size a k ∧
    Pt ((((w.alloc (.cells #[.int .i64 0, .int .i64 0] t)).alloc (.cells #[.int .i64 0, .int .i64 0] t)).setCells w.heap.size 0 (ptc a k)).setCells (w.heap.size + 1) 0 (ptc k b)) (w.heap.size + 1) k b ∧
    Below w.heap.size w ((((w.alloc (.cells #[.int .i64 0, .int .i64 0] t)).alloc (.cells #[.int .i64 0, .int .i64 0] t)).setCells w.heap.size 0 (ptc a k)).setCells (w.heap.size + 1) 0 (ptc k b)) := by
  have z0 := Wire.b1 w (.cells #[.int .i64 0, .int .i64 0] t)
  have z1 := Wire.b1 (w.alloc (.cells #[.int .i64 0, .int .i64 0] t)) (.cells #[.int .i64 0, .int .i64 0] t)
  have L := (pt_new w 0 0 t).on z1
  have R := pt_new (w.alloc (.cells #[.int .i64 0, .int .i64 0] t)) 0 0 t
  rw [Wire.size_alloc] at R
  have R2 : Pt (((w.alloc (.cells #[.int .i64 0, .int .i64 0] t)).alloc (.cells #[.int .i64 0, .int .i64 0] t)).setCells w.heap.size 0 (ptc a k)) (w.heap.size + 1) 0 0 := R.aside (by omega) _
  have L2 : Pt (((w.alloc (.cells #[.int .i64 0, .int .i64 0] t)).alloc (.cells #[.int .i64 0, .int .i64 0] t)).setCells w.heap.size 0 (ptc a k)) w.heap.size a k := Pt.put (a := 0) (b := 0) L
  exact ⟨Pt.there (a := 0) (b := 0) L, R2.there, L2.aside (by omega) _, R2.put, ((bcj z0 z1).trans (Hash.below_cells (B := w.heap.size) (by omega) _ _ _)).trans (Hash.below_cells (B := w.heap.size) (by omega) _ _ _)⟩
/-- The two parts of a part. -/
structure Sc (w W : World) (g a k b : Nat) : Prop where
  l : Pt W g a k
  r : Pt W (g + 1) k b
  z : Below w.heap.size w W
theorem Sc.on {w W W' : World} {g a k b : Nat} (h : Sc w W g a k b) (hb : Below W.heap.size W W') : Sc w W' g a k b := ⟨h.l.on hb, h.r.on hb, bcj h.z hb⟩

set_option maxRecDepth 100000 in
set_option maxHeartbeats 8000000 in
theorem siblings_any : ∀ (n a b i : Nat) (w : World), b - a = n → b ≤ 9223372036854775807 → a ≤ i → i < b →
    Calls Tryd.prog 35 #[ptv a b, .int .i64 (i : Int)] w (GivesS (sibs a b i) w) := by
  intro n
  induction n using Nat.strongRecOn with
  | _ n ih =>
    intro a b i w hn hb hai hib
    have HN := Lib.hid (ownP_nil w w.heap.size)
    have HP := Lib.hid (pt_new w a b 69)
    have Z := Wire.b1 w (.cells #[.int .i64 (a : Int), .int .i64 (b : Int)] 69)
    have e1 : (b : Int) - (a : Int) = ((b - a : Nat) : Int) := by omega
    by_cases h1 : b - a = 1
    · rw [sibs_one (by omega)]
      have HN2 := Lib.hid (HN.out.on Z)
      rw [h1] at e1
      clear ih hn h1 hai hib HN
      unfold ptv
      go_enter Tryd.func35, Tryd.ntmps35
      go_wp2
      go_ret
      exact ⟨_, _, rfl, HN2.out, Z⟩
    have h2 : 2 ≤ b - a := by omega
    have y1 : ¬ ((b - a : Nat) : Int) = 1 := by omega
    have y2 : (((b - a : Nat) : Int) == 1) = false := by simpa using y1
    have hs1 := split_lt h2
    have hs2 := split_pos (b - a)
    obtain ⟨k, hk⟩ : ∃ k, k = a + split (b - a) := ⟨_, rfl⟩
    have HSP := Lib.hid (fun W => split_any a b k h2 hb hk W)
    have HLN : Hid ((sibs a b i).length ≤ 63) := Lib.hid (sibs_length 63 a b i (by have : (2 : Nat) ^ 63 = 9223372036854775808 := by decide
                                                                                   omega))
    have hq : b - a ≤ 9223372036854775807 := by omega
    by_cases hlow : i < k
    · have hL := sibs_low (lo := a) (hi := b) (i := i) h2 (by rw [← hk]; exact hlow)
      rw [← hk] at hL
      rw [hL] at HLN ⊢
      have HC : Hid (∀ W, Calls Tryd.prog 35 #[.agg #[.int .i64 (a : Int), .int .i64 (k : Int)], .int .i64 (i : Int)] W (GivesS (sibs a k i) W)) := Lib.hid (fun W => ih (k - a) (by omega) a k i W rfl (by omega) (by omega) (by omega))
      have z0 : (i : Int) < (k : Int) := by omega
      generalize sibs a k i = L at *
      have HPL : Hid (∀ v m W B, OwnP W B v m L → m ≤ 1099511627776) := Lib.hid (fun v m W B h => by have h3 := h.len; have h4 := HLN.out; simp at h4; omega)
      generalize b - a = q at *
      clear ih hn h1 hai hib HN hL hs1 hs2 hk h2 HLN hb
      unfold ptv at HSP ⊢
      go_enter Tryd.func35, Tryd.ntmps35
      go_wp2_with (first
        | (refine load_pt 14 rfl rfl (.tmp 2) rfl w.heap.size 0 rfl a b HP.out.range ?_; unfold ptv)
        | (go_at_call 58; (with_reducible refine (HSP.out _).mono ?_); rintro e w3 ⟨rfl, hb⟩; unfold ptv; replace Z := bcj Z hb; clear hb; have HTN := Lib.hid (two_new w3 a k b 69))
        | (refine store_pt (.tmp 5) (.tmp 16) rfl rfl w3.heap.size 0 rfl a k rfl HTN.out.1 ?_)
        | (refine store_pt (.tmp 6) (.tmp 17) rfl rfl (w3.heap.size + 1) 0 rfl k b rfl HTN.out.2.1 ?_; refine Hash.gen_world (Pq := fun W => Sc w W w3.heap.size a k b) (G := fun W => wpList _ _ _ _ _ W) ⟨HTN.out.2.2.1, HTN.out.2.2.2.1, bcj Z HTN.out.2.2.2.2⟩ ?_; clear Z HTN; intro w5 Y; have c5 := Y.l.hi))
      clear c5
      revert Y
      generalize w3.heap.size = g
      intro Y
      refine RegC.region (fun W => Sc w W g a k b) [5, 6] (by kernel_rfl) ?_
      replace Y := Y.on (Hash.belowD _)
      (refine RegC.take (i := 0) (v := (ptv a k)) rfl (by kernel_rfl) (by kernel_rfl) (by kernel_rfl) (by kernel_rfl) (by kernel_rfl) (fun _ _ _ h => h) (Or.inl ⟨by rfl, fun W hW => ?_⟩) Y ?_; focus (exact (by obtain ⟨_, hu, hd⟩ := row_pt; exact RegC.exec_rowC 69 (.tmp 5) rfl (g) 0 (by go_simp) _ _ hW.l.range hu hd (info_pt _ _))))
      (refine RegC.take (i := 1) (v := ?_) rfl (by kernel_rfl) (by kernel_rfl) (by kernel_rfl) (by kernel_rfl) (by kernel_rfl) (fun _ _ _ h => h) (Or.inl ⟨by rfl, ?_⟩) Y ?_; rotate_left 1; focus (intro W hW; go_simp; try (first | with_reducible rfl | (rw [if_pos (by omega)]; done) | (rw [if_pos (by omega), if_neg (by omega)]; done) | (rw [if_neg (by omega)]; done))))
      (refine RegC.take (i := 3) (v := (ptv k b)) rfl (by kernel_rfl) (by kernel_rfl) (by kernel_rfl) (by kernel_rfl) (by kernel_rfl) (fun _ _ _ h => h) (Or.inl ⟨by rfl, fun W hW => ?_⟩) Y ?_; focus (exact (by obtain ⟨_, hu, hd⟩ := row_pt; exact RegC.exec_rowC 69 (.tmp 6) rfl (g + 1) 0 (by go_simp) _ _ hW.r.range hu hd (info_pt _ _))))
      refine RegC.ready (rs := [2, 4]) (by kernel_rfl) (by simp) ?_
      refine RegC.cons rfl (fun K hK => ?_) ?_
      · go_simp
        unfold ptv
        go_wp2_with (go_at_call 35; (with_reducible refine (HC.out _).mono ?_); rintro e w4 ⟨v4, m4, rfl, ho, hb⟩; obtain ⟨A4, c4, rfl, -⟩ := ho.form; have HO := Lib.hid (ho.more Y.z.size); replace Y := Y.on hb; clear hb ho)
        refine ⟨fun _ => Y, ?_⟩
        refine RegC.ready (rs := [4]) (by kernel_rfl) (by simp) ?_
        refine RegC.cons rfl (fun K hK => ?_) RegC.nil
        go_simp
        refine hK _ _ ⟨fun _ => Y.on (Wire.b1 _ _), ?_⟩
        refine RegC.rest (by kernel_rfl) ?_
        refine wpAny_tail 5 2 rfl (by kernel_rfl) ?_
        simp only [List.drop_succ_cons, List.drop_zero]
        have Z := bcj Y.z (Wire.b1 w4 (.cells #[.int .i64 (k : Int), .int .i64 (b : Int)] 69))
        have HR := Lib.hid (pt_new w4 k b 69).range
        clear Y
        go_wp2_with (first
          | (at_builtin; refine append_p rfl (.tmp 24) (.tmp 26) rfl w.heap.size (.slice A4 m4 c4) m4 L rfl (HO.out.on (Wire.b1 _ _)) w4.heap.size rfl k b HR.out (HPL.out _ _ _ _ HO.out) Z.size ?_; intro v6 w6 ho6 hb6; have HO6 := Lib.hid ho6; replace Z := Z.trans hb6; clear ho6 hb6))
        go_ret
        exact ⟨_, _, rfl, HO6.out, Z⟩
      · refine RegC.cons rfl (fun K hK => ?_) RegC.nil
        go_simp
        unfold ptv
        refine hK _ _ ⟨fun _ => Y.on (Wire.b1 _ _), ?_⟩
        have HR0 := pt_new w5.drew k b 69
        have hsz : w5.drew.heap.size = w5.heap.size := rfl
        rw [hsz] at HR0
        refine Hash.gen_world (Pq := fun W => Sc w W g a k b ∧ Pt W w5.heap.size k b) (G := fun W => RegC.anyT _ _ _ _ _ _ _ _ _ W) ⟨Y.on (Wire.b1 _ _), HR0⟩ ?_
        clear Y HR0 hsz
        intro w6 Y6
        obtain ⟨Y, hr0⟩ := Y6
        have HR0 := Lib.hid hr0
        clear hr0
        refine RegC.ready (rs := [2]) (by kernel_rfl) (by simp) ?_
        refine RegC.cons rfl (fun K hK => ?_) RegC.nil
        go_simp
        go_wp2_with (go_at_call 35; (with_reducible refine (HC.out _).mono ?_); rintro e w4 ⟨v4, m4, rfl, ho, hb⟩; obtain ⟨A4, c4, rfl, -⟩ := ho.form; have HO := Lib.hid (ho.more Y.z.size); have HR := Lib.hid (HR0.out.on hb).range; replace Y := Y.on hb; clear hb ho)
        refine ⟨fun _ => Y, ?_⟩
        refine RegC.rest (by kernel_rfl) ?_
        refine wpAny_tail 5 2 rfl (by kernel_rfl) ?_
        simp only [List.drop_succ_cons, List.drop_zero]
        have Z := Y.z
        clear Y
        go_wp2_with (first
          | (at_builtin; refine append_p rfl (.tmp 24) (.tmp 26) rfl w.heap.size (.slice A4 m4 c4) m4 L rfl HO.out w5.heap.size rfl k b HR.out (HPL.out _ _ _ _ HO.out) Z.size ?_; intro v6 w6 ho6 hb6; have HO6 := Lib.hid ho6; replace Z := Z.trans hb6; clear ho6 hb6))
        go_ret
        exact ⟨_, _, rfl, HO6.out, Z⟩
    · have hL := sibs_high (lo := a) (hi := b) (i := i) h2 (by rw [← hk]; exact hlow)
      rw [← hk] at hL
      rw [hL] at HLN ⊢
      have HC : Hid (∀ W, Calls Tryd.prog 35 #[.agg #[.int .i64 (k : Int), .int .i64 (b : Int)], .int .i64 (i : Int)] W (GivesS (sibs k b i) W)) := Lib.hid (fun W => ih (b - k) (by omega) k b i W rfl (by omega) (by omega) (by omega))
      have z0 : ¬ (i : Int) < (k : Int) := by omega
      generalize sibs k b i = L at *
      have HPL : Hid (∀ v m W B, OwnP W B v m L → m ≤ 1099511627776) := Lib.hid (fun v m W B h => by have h3 := h.len; have h4 := HLN.out; simp at h4; omega)
      generalize b - a = q at *
      clear ih hn h1 hai hib HN hL hs1 hs2 hk h2 HLN hb
      unfold ptv at HSP ⊢
      go_enter Tryd.func35, Tryd.ntmps35
      go_wp2_with (first
        | (refine load_pt 14 rfl rfl (.tmp 2) rfl w.heap.size 0 rfl a b HP.out.range ?_; unfold ptv)
        | (go_at_call 58; (with_reducible refine (HSP.out _).mono ?_); rintro e w3 ⟨rfl, hb⟩; unfold ptv; replace Z := bcj Z hb; clear hb; have HTN := Lib.hid (two_new w3 a k b 69))
        | (refine store_pt (.tmp 5) (.tmp 16) rfl rfl w3.heap.size 0 rfl a k rfl HTN.out.1 ?_)
        | (refine store_pt (.tmp 6) (.tmp 17) rfl rfl (w3.heap.size + 1) 0 rfl k b rfl HTN.out.2.1 ?_; refine Hash.gen_world (Pq := fun W => Sc w W w3.heap.size a k b) (G := fun W => wpList _ _ _ _ _ W) ⟨HTN.out.2.2.1, HTN.out.2.2.2.1, bcj Z HTN.out.2.2.2.2⟩ ?_; clear Z HTN; intro w5 Y; have c5 := Y.l.hi))
      clear c5
      revert Y
      generalize w3.heap.size = g
      intro Y
      refine RegC.region (fun W => Sc w W g a k b) [5, 6] (by kernel_rfl) ?_
      replace Y := Y.on (Hash.belowD _)
      (refine RegC.take (i := 0) (v := (ptv k b)) rfl (by kernel_rfl) (by kernel_rfl) (by kernel_rfl) (by kernel_rfl) (by kernel_rfl) (fun _ _ _ h => h) (Or.inl ⟨by rfl, fun W hW => ?_⟩) Y ?_; focus (exact (by obtain ⟨_, hu, hd⟩ := row_pt; exact RegC.exec_rowC 69 (.tmp 6) rfl (g + 1) 0 (by go_simp) _ _ hW.r.range hu hd (info_pt _ _))))
      (refine RegC.take (i := 1) (v := ?_) rfl (by kernel_rfl) (by kernel_rfl) (by kernel_rfl) (by kernel_rfl) (by kernel_rfl) (fun _ _ _ h => h) (Or.inl ⟨by rfl, ?_⟩) Y ?_; rotate_left 1; focus (intro W hW; go_simp; try (first | with_reducible rfl | (rw [if_pos (by omega)]; done) | (rw [if_pos (by omega), if_neg (by omega)]; done) | (rw [if_neg (by omega)]; done))))
      (refine RegC.take (i := 3) (v := (ptv a k)) rfl (by kernel_rfl) (by kernel_rfl) (by kernel_rfl) (by kernel_rfl) (by kernel_rfl) (fun _ _ _ h => h) (Or.inl ⟨by rfl, fun W hW => ?_⟩) Y ?_; focus (exact (by obtain ⟨_, hu, hd⟩ := row_pt; exact RegC.exec_rowC 69 (.tmp 5) rfl (g) 0 (by go_simp) _ _ hW.l.range hu hd (info_pt _ _))))
      refine RegC.ready (rs := [2, 4]) (by kernel_rfl) (by simp) ?_
      refine RegC.cons rfl (fun K hK => ?_) ?_
      · go_simp
        unfold ptv
        go_wp2_with (go_at_call 35; (with_reducible refine (HC.out _).mono ?_); rintro e w4 ⟨v4, m4, rfl, ho, hb⟩; obtain ⟨A4, c4, rfl, -⟩ := ho.form; have HO := Lib.hid (ho.more Y.z.size); replace Y := Y.on hb; clear hb ho)
        refine ⟨fun _ => Y, ?_⟩
        refine RegC.ready (rs := [4]) (by kernel_rfl) (by simp) ?_
        refine RegC.cons rfl (fun K hK => ?_) RegC.nil
        go_simp
        refine hK _ _ ⟨fun _ => Y.on (Wire.b1 _ _), ?_⟩
        refine RegC.rest (by kernel_rfl) ?_
        refine wpAny_tail 5 2 rfl (by kernel_rfl) ?_
        simp only [List.drop_succ_cons, List.drop_zero]
        have Z := bcj Y.z (Wire.b1 w4 (.cells #[.int .i64 (a : Int), .int .i64 (k : Int)] 69))
        have HR := Lib.hid (pt_new w4 a k 69).range
        clear Y
        go_wp2_with (first
          | (at_builtin; refine append_p rfl (.tmp 30) (.tmp 32) rfl w.heap.size (.slice A4 m4 c4) m4 L rfl (HO.out.on (Wire.b1 _ _)) w4.heap.size rfl a k HR.out (HPL.out _ _ _ _ HO.out) Z.size ?_; intro v6 w6 ho6 hb6; have HO6 := Lib.hid ho6; replace Z := Z.trans hb6; clear ho6 hb6))
        go_ret
        exact ⟨_, _, rfl, HO6.out, Z⟩
      · refine RegC.cons rfl (fun K hK => ?_) RegC.nil
        go_simp
        unfold ptv
        refine hK _ _ ⟨fun _ => Y.on (Wire.b1 _ _), ?_⟩
        have HR0 := pt_new w5.drew a k 69
        have hsz : w5.drew.heap.size = w5.heap.size := rfl
        rw [hsz] at HR0
        refine Hash.gen_world (Pq := fun W => Sc w W g a k b ∧ Pt W w5.heap.size a k) (G := fun W => RegC.anyT _ _ _ _ _ _ _ _ _ W) ⟨Y.on (Wire.b1 _ _), HR0⟩ ?_
        clear Y HR0 hsz
        intro w6 Y6
        obtain ⟨Y, hr0⟩ := Y6
        have HR0 := Lib.hid hr0
        clear hr0
        refine RegC.ready (rs := [2]) (by kernel_rfl) (by simp) ?_
        refine RegC.cons rfl (fun K hK => ?_) RegC.nil
        go_simp
        go_wp2_with (go_at_call 35; (with_reducible refine (HC.out _).mono ?_); rintro e w4 ⟨v4, m4, rfl, ho, hb⟩; obtain ⟨A4, c4, rfl, -⟩ := ho.form; have HO := Lib.hid (ho.more Y.z.size); have HR := Lib.hid (HR0.out.on hb).range; replace Y := Y.on hb; clear hb ho)
        refine ⟨fun _ => Y, ?_⟩
        refine RegC.rest (by kernel_rfl) ?_
        refine wpAny_tail 5 2 rfl (by kernel_rfl) ?_
        simp only [List.drop_succ_cons, List.drop_zero]
        have Z := Y.z
        clear Y
        go_wp2_with (first
          | (at_builtin; refine append_p rfl (.tmp 30) (.tmp 32) rfl w.heap.size (.slice A4 m4 c4) m4 L rfl HO.out w5.heap.size rfl a k HR.out (HPL.out _ _ _ _ HO.out) Z.size ?_; intro v6 w6 ho6 hb6; have HO6 := Lib.hid ho6; replace Z := Z.trans hb6; clear ho6 hb6))
        go_ret
        exact ⟨_, _, rfl, HO6.out, Z⟩
end Mk
end Go.Proofs.YthpkeaafgabjiaaDoor

