/- MPfx; MPfM; MPfN: what each of these parts proves stands ahead of it. -/
import Derived.Test.YthpkeaafgabjiaaDoorM11
import Derived.Test.YthpkeaafgabjiaaDoorM22
import Derived.Test.YthpkeaafgabjiaaDoorM12
import Derived.Laws.OwnMore
/- The reference of package merkle: PrefixInputs, where it ends. Conditions: none but the lengths of what came in. -/
namespace Go.Proofs.YthpkeaafgabjiaaDoor
open Go.RowKit
namespace Mk
open Wire (bv sv Lies)
open Hash (bcj)

/-- A row of texts of one's own and two digests. -/
def GivesFx (L : List (List UInt8)) (x y : List UInt8) (w : World) (e : Ending) (w' : World) : Prop :=
  ∃ v n, e = .returned (.tuple #[v, dv x, dv y]) ∧ OwnT w' w.heap.size v n L ∧ Below w.heap.size w w'
/-- The digest that came in, room for those that go out. -/
structure Pf (w W : World) (old x y : List UInt8) : Prop where
  o : Dg W w.heap.size old
  x : Dg W (w.heap.size + 1) x
  y : Dg W (w.heap.size + 2) y
  z : Below w.heap.size w W
section
variable {w W W' : World} {old x y u : List UInt8}
theorem Pf.on (h : Pf w W old x y) (hb : Below W.heap.size W W') : Pf w W' old x y := ⟨h.o.on hb, h.x.on hb, h.y.on hb, bcj h.z hb⟩
theorem Pf.p1 (h : Pf w W old x y) (hu : u.length = 16) : Pf w (W.setCells (w.heap.size + 1) 0 (u.map bv)) old u y :=
  ⟨h.o.aside (by omega) _, h.x.put hu, h.y.aside (by omega) _, h.z.trans (Hash.below_cells (B := w.heap.size) (by omega) _ _ _)⟩
theorem Pf.p2 (h : Pf w W old x y) (hu : u.length = 16) : Pf w (W.setCells (w.heap.size + 2) 0 (u.map bv)) old x u :=
  ⟨h.o.aside (by omega) _, h.x.aside (by omega) _, h.y.put hu, h.z.trans (Hash.below_cells (B := w.heap.size) (by omega) _ _ _)⟩
theorem load_end {g : Nat} (h : Dg W g x) : (loadVar 29 ⟨g, 0, none⟩).run Tryd.prog W = .ok (dv x) W :=
  run_loadVar_mid (P := Tryd.prog) W g 0 29 (x.map bv) _ h.range und_d rfl (info_d h.len)
theorem pf_new (w : World) (ho : old.length = 16) (t : TypeId) : Pf w (((w.alloc (.cells (old.map bv).toArray t)).alloc (.cells #[.int .u8 0, .int .u8 0, .int .u8 0, .int .u8 0, .int .u8 0, .int .u8 0, .int .u8 0, .int .u8 0, .int .u8 0, .int .u8 0, .int .u8 0, .int .u8 0, .int .u8 0, .int .u8 0, .int .u8 0, .int .u8 0] t)).alloc (.cells #[.int .u8 0, .int .u8 0, .int .u8 0, .int .u8 0, .int .u8 0, .int .u8 0, .int .u8 0, .int .u8 0, .int .u8 0, .int .u8 0, .int .u8 0, .int .u8 0, .int .u8 0, .int .u8 0, .int .u8 0, .int .u8 0] t)) old zero zero := by
  have h1 := dg_new w ho t
  have s1 : (w.alloc (.cells (old.map bv).toArray t)).heap.size = w.heap.size + 1 := World.size_alloc _ _
  have b1 : Below w.heap.size w (w.alloc (.cells (old.map bv).toArray t)) := Wire.b1 _ _
  generalize w.alloc (.cells (old.map bv).toArray t) = W1 at *
  have h2 : Dg (W1.alloc (.cells #[.int .u8 0, .int .u8 0, .int .u8 0, .int .u8 0, .int .u8 0, .int .u8 0, .int .u8 0, .int .u8 0, .int .u8 0, .int .u8 0, .int .u8 0, .int .u8 0, .int .u8 0, .int .u8 0, .int .u8 0, .int .u8 0] t)) W1.heap.size zero := dg_zero W1 t
  have b2 := Wire.b1 W1 (.cells #[.int .u8 0, .int .u8 0, .int .u8 0, .int .u8 0, .int .u8 0, .int .u8 0, .int .u8 0, .int .u8 0, .int .u8 0, .int .u8 0, .int .u8 0, .int .u8 0, .int .u8 0, .int .u8 0, .int .u8 0, .int .u8 0] t)
  have s2 : (W1.alloc (.cells #[.int .u8 0, .int .u8 0, .int .u8 0, .int .u8 0, .int .u8 0, .int .u8 0, .int .u8 0, .int .u8 0, .int .u8 0, .int .u8 0, .int .u8 0, .int .u8 0, .int .u8 0, .int .u8 0, .int .u8 0, .int .u8 0] t)).heap.size = W1.heap.size + 1 := World.size_alloc _ _
  generalize W1.alloc (.cells #[.int .u8 0, .int .u8 0, .int .u8 0, .int .u8 0, .int .u8 0, .int .u8 0, .int .u8 0, .int .u8 0, .int .u8 0, .int .u8 0, .int .u8 0, .int .u8 0, .int .u8 0, .int .u8 0, .int .u8 0, .int .u8 0] t) = W2 at *
  have h3 : Dg (W2.alloc (.cells #[.int .u8 0, .int .u8 0, .int .u8 0, .int .u8 0, .int .u8 0, .int .u8 0, .int .u8 0, .int .u8 0, .int .u8 0, .int .u8 0, .int .u8 0, .int .u8 0, .int .u8 0, .int .u8 0, .int .u8 0, .int .u8 0] t)) W2.heap.size zero := dg_zero W2 t
  have b3 := Wire.b1 W2 (.cells #[.int .u8 0, .int .u8 0, .int .u8 0, .int .u8 0, .int .u8 0, .int .u8 0, .int .u8 0, .int .u8 0, .int .u8 0, .int .u8 0, .int .u8 0, .int .u8 0, .int .u8 0, .int .u8 0, .int .u8 0, .int .u8 0] t)
  rw [s2, s1] at h3
  rw [s1] at h2
  exact ⟨(h1.on b2).on b3, h2.on b3, h3, bcj (bcj b1 b2) b3⟩
end

set_option maxRecDepth 100000 in
set_option maxHeartbeats 2000000 in
theorem refPfx_base (old : List UInt8) (ho : old.length = 16) (m n : Nat) (whole : Bool) (q c : Nat) (A : Option Addr) (w : World) (h : (m = n ∧ whole = true) ∨ q = 0) :
    Calls Tryd.prog 26 #[dv old, .int .i64 (m : Int), .int .i64 (n : Int), .bool whole, .slice A q c] w (GivesFx [] old old w) := by
  have Y := pf_new w ho 29
  have HO := Lib.hid ho
  have hw : (m = n ∧ whole = true) ∨ (¬ (m : Int) = (n : Int) ∧ q = 0) ∨ (m = n ∧ whole = false ∧ q = 0) := by
    by_cases h1 : m = n
    · cases whole with
      | true => exact .inl ⟨h1, rfl⟩
      | false => exact .inr (.inr ⟨h1, rfl, h.resolve_left (fun h2 => by cases h2.2)⟩)
    · exact .inr (.inl ⟨by omega, h.resolve_left (fun h2 => h1 h2.1)⟩)
  clear ho h
  unfold dv
  rcases hw with ⟨rfl, rfl⟩ | ⟨h1, rfl⟩ | ⟨rfl, rfl, rfl⟩
  all_goals
    go_enter Tryd.func26, Tryd.ntmps26
    go_wp2
    replace Y := Y.on (Hash.belowD _)
    have Y0 := Y
    replace Y : ∃ a, Pf w _ old a zero := ⟨_, Y⟩
    refine RegC.region (fun W => ∃ a, Pf w W old a zero) [4] (by kernel_rfl) ?_
    (refine RegC.take (i := 0) (v := .agg (old.map bv).toArray) rfl (by kernel_rfl) (by kernel_rfl) (by kernel_rfl) (by kernel_rfl) (by kernel_rfl) (fun _ _ _ h => h) (Or.inl ⟨by rfl, fun W hW => ?_⟩) Y ?_; focus (exact RegC.exec_rowC 29 (.tmp 5) rfl w.heap.size 0 rfl (old.map bv) _ hW.choose_spec.o.range und_d rfl (info_d HO.out)))
    (refine RegC.take (i := 1) (v := .agg (old.map bv).toArray) rfl (by kernel_rfl) (by kernel_rfl) (by kernel_rfl) (by kernel_rfl) (by kernel_rfl) (fun _ _ _ h => h) (Or.inl ⟨by rfl, fun W hW => ?_⟩) Y ?_; focus (exact RegC.exec_rowC 29 (.tmp 5) rfl w.heap.size 0 rfl (old.map bv) _ hW.choose_spec.o.range und_d rfl (info_d HO.out)))
    (refine RegC.take (i := 2) (v := ?_) rfl (by kernel_rfl) (by kernel_rfl) (by kernel_rfl) (by kernel_rfl) (by kernel_rfl) (fun _ _ _ h => h) (Or.inl ⟨by rfl, ?_⟩) Y ?_; rotate_left 1; focus (intro W hW; go_simp; try (first | with_reducible rfl | (rw [if_pos (by omega)]; done) | (rw [if_pos (by omega), if_neg (by omega)]; done) | (rw [if_neg (by omega)]; done))))
    refine RegC.store1 3 (by kernel_rfl) rfl rfl 29 (.tmp 11) (.tmp 35) rfl (w.heap.size + 1) 0 (old.map bv).toArray (by go_simp) (by go_simp) (Y0.x.thereA HO.out) (info_dA HO.out) (one_d old) ⟨_, Y0.p1 HO.out⟩ ?_
    refine RegC.rest (by kernel_rfl) ?_
    refine wpAny_tail 4 1 rfl (by kernel_rfl) ?_
    simp only [List.drop_succ_cons, List.drop_zero]
    have Y2 := Lib.hid (Y0.p1 HO.out)
    clear Y Y0
    go_wp2_with (first
      | (refine store_d (.tmp 12) (.tmp 36) rfl rfl (w.heap.size + 1 + 1) 0 rfl old rfl HO.out Y2.out.y.there ?_; refine Hash.gen_world (Pq := fun W => Pf w W old old old) (G := fun W => wpList _ _ _ _ _ W) (Y2.out.p2 HO.out) ?_; clear Y2; intro W3 Y))
    have HX := load_end Y.x
    have HY : (loadVar 29 ⟨w.heap.size + 1 + 1, 0, none⟩).run Tryd.prog W3 = .ok (dv old) W3 := load_end Y.y
    refine bodyPost_ret (v := .tuple #[.slice none 0 0, dv old, dv old]) ?_ rfl ⟨_, 0, rfl, ownT_nil _ _, Y.z⟩
    simp [results, Tryd.results26, asAddr, Act.put]
    rw [HX, Result.andThen_ok, HY]
    rfl
/-- The digest that is read last lies behind them. -/
structure Pg (w W : World) (old x y l : List UInt8) : Prop where
  p : Pf w W old x y
  l : Dg W (w.heap.size + 3) l
section
variable {w W W' : World} {old x y l u : List UInt8}
theorem Pg.on (h : Pg w W old x y l) (hb : Below W.heap.size W W') : Pg w W' old x y l := ⟨h.p.on hb, h.l.on hb⟩
theorem Pg.p1 (h : Pg w W old x y l) (hu : u.length = 16) : Pg w (W.setCells (w.heap.size + 1) 0 (u.map bv)) old u y l := ⟨h.p.p1 hu, h.l.aside (by omega) _⟩
theorem Pg.p2 (h : Pg w W old x y l) (hu : u.length = 16) : Pg w (W.setCells (w.heap.size + 2) 0 (u.map bv)) old x u l := ⟨h.p.p2 hu, h.l.aside (by omega) _⟩
theorem Pg.put (h : Pg w W old x y l) (hu : u.length = 16) : Pg w (W.setCells (w.heap.size + 1 + 1 + 1) 0 (u.map bv)) old x y u :=
  ⟨⟨h.p.o.aside (by omega) _, h.p.x.aside (by omega) _, h.p.y.aside (by omega) _, h.p.z.trans (Hash.below_cells (B := w.heap.size) (by omega) _ _ _)⟩, h.l.put hu⟩
theorem pg_room (h : Pf w W old x y) (hs : W.heap.size = w.heap.size + 3) (t : TypeId) : Pg w (W.alloc (.cells #[.int .u8 0, .int .u8 0, .int .u8 0, .int .u8 0, .int .u8 0, .int .u8 0, .int .u8 0, .int .u8 0, .int .u8 0, .int .u8 0, .int .u8 0, .int .u8 0, .int .u8 0, .int .u8 0, .int .u8 0, .int .u8 0] t)) old x y zero := by
  have h1 : Dg (W.alloc (.cells #[.int .u8 0, .int .u8 0, .int .u8 0, .int .u8 0, .int .u8 0, .int .u8 0, .int .u8 0, .int .u8 0, .int .u8 0, .int .u8 0, .int .u8 0, .int .u8 0, .int .u8 0, .int .u8 0, .int .u8 0, .int .u8 0] t)) W.heap.size zero := dg_zero W t
  rw [hs] at h1
  exact ⟨h.on (Wire.b1 _ _), h1⟩
end

set_option maxRecDepth 100000 in
set_option maxHeartbeats 2000000 in
theorem refPfx_same (old : List UInt8) (ho : old.length = 16) (m q c : Nat) (A : Option Addr) (p : List (List UInt8)) (x : List UInt8) (w : World) (hl : LiesD w w.heap.size A (q + 1) c p) (hx : p[q]? = some x) :
    Calls Tryd.prog 26 #[dv old, .int .i64 (m : Int), .int .i64 (m : Int), .bool false, .slice A (q + 1) c] w (GivesFx [] x x w) := by
  have hmost : c ≤ 9223372036854775807 := by have := hl.lies.most; unfold maxLen at this; omega
  have hle := hl.lies.le
  obtain ⟨b, o, rfl, hbb, hrx⟩ := hl.row hx
  have HO := Lib.hid ho
  have HX := Lib.hid (hl.ok.at_ hx)
  have HRX : Hid (∀ W, Below w.heap.size w W → W.rangeAt b (o + q * 16) (x.map bv)) := Lib.hid (fun W h j u hu => (h.cell (by show b < w.heap.size; exact hbb)).trans (hrx j u hu))
  have Y := pf_new w ho 29
  have e1 : (((q + 1 : Nat) : Int) == 0) = false := by simp; omega
  have e2 : ¬ ((q + 1 : Nat) : Int) = 0 := by omega
  have e3 : ((q + 1 : Nat) : Int) - 1 = (q : Int) := by omega
  have e4 : wrap64 (q : Int) = (q : Int) := by simp only [wrap64]; omega
  have HS : Hid (∀ A B C : Obj, (((w.alloc A).alloc B).alloc C).heap.size = w.heap.size + 3) := Lib.hid (fun A B C => by rw [World.size_alloc, World.size_alloc, World.size_alloc])
  clear hl hx hrx ho
  unfold dv
  go_enter Tryd.func26, Tryd.ntmps26
  go_wp2_with (first
    | (refine load_d 42 rfl rfl _ rfl b (o + q * 16) rfl x HX.out (HRX.out _ Y.z) ?_)
    | (refine store_d (.tmp 13) (.tmp 42) rfl rfl (w.heap.size + 1 + 1 + 1) 0 rfl x rfl HX.out (pg_room Y (HS.out _ _ _) _).l.there ?_; refine Hash.gen_world (Pq := fun W => Pg w W old zero zero x) (G := fun W => wpList _ _ _ _ _ W) ((pg_room Y (HS.out _ _ _) _).put HX.out) ?_; clear Y; intro W2 Y))
  replace Y := Y.on (Hash.belowD _)
  have Y0 := Y
  replace Y : ∃ a, Pg w _ old a zero x := ⟨_, Y⟩
  refine RegC.region (fun W => ∃ a, Pg w W old a zero x) [4] (by kernel_rfl) ?_
  (refine RegC.take (i := 0) (v := .agg (x.map bv).toArray) rfl (by kernel_rfl) (by kernel_rfl) (by kernel_rfl) (by kernel_rfl) (by kernel_rfl) (fun _ _ _ h => h) (Or.inl ⟨by rfl, fun W hW => ?_⟩) Y ?_; focus (exact RegC.exec_rowC 29 (.tmp 13) rfl (w.heap.size + 1 + 1 + 1) 0 rfl (x.map bv) _ hW.choose_spec.l.range und_d rfl (info_d HX.out)))
  (refine RegC.take (i := 1) (v := .agg (x.map bv).toArray) rfl (by kernel_rfl) (by kernel_rfl) (by kernel_rfl) (by kernel_rfl) (by kernel_rfl) (fun _ _ _ h => h) (Or.inl ⟨by rfl, fun W hW => ?_⟩) Y ?_; focus (exact RegC.exec_rowC 29 (.tmp 13) rfl (w.heap.size + 1 + 1 + 1) 0 rfl (x.map bv) _ hW.choose_spec.l.range und_d rfl (info_d HX.out)))
  (refine RegC.take (i := 2) (v := ?_) rfl (by kernel_rfl) (by kernel_rfl) (by kernel_rfl) (by kernel_rfl) (by kernel_rfl) (fun _ _ _ h => h) (Or.inl ⟨by rfl, ?_⟩) Y ?_; rotate_left 1; focus (intro W hW; go_simp; try (first | with_reducible rfl | (rw [if_pos (by omega)]; done) | (rw [if_pos (by omega), if_neg (by omega)]; done) | (rw [if_neg (by omega)]; done))))
  refine RegC.store1 3 (by kernel_rfl) rfl rfl 29 (.tmp 11) (.tmp 46) rfl (w.heap.size + 1) 0 (x.map bv).toArray (by go_simp) (by go_simp) (Y0.p.x.thereA HX.out) (info_dA HX.out) (one_d x) ⟨_, Y0.p1 HX.out⟩ ?_
  refine RegC.rest (by kernel_rfl) ?_
  refine wpAny_tail 4 1 rfl (by kernel_rfl) ?_
  simp only [List.drop_succ_cons, List.drop_zero]
  have Y2 := Lib.hid (Y0.p1 HX.out)
  clear Y Y0
  go_wp2_with (first
    | (refine store_d (.tmp 12) (.tmp 47) rfl rfl (w.heap.size + 1 + 1) 0 rfl x rfl HX.out Y2.out.p.y.there ?_; refine Hash.gen_world (Pq := fun W => Pg w W old x x x) (G := fun W => wpList _ _ _ _ _ W) (Y2.out.p2 HX.out) ?_; clear Y2; intro W3 Y))
  have HXX := load_end Y.p.x
  have HYY : (loadVar 29 ⟨w.heap.size + 1 + 1, 0, none⟩).run Tryd.prog W3 = .ok (dv x) W3 := load_end Y.p.y
  refine bodyPost_ret (v := .tuple #[.slice none 0 0, dv x, dv x]) ?_ rfl ⟨_, 0, rfl, ownT_nil _ _, Y.p.z⟩
  simp [results, Tryd.results26, asAddr, Act.put]
  rw [HXX, Result.andThen_ok, HYY]
  rfl

/-- Lengths of what it gives. -/
theorem pre_len {old : List UInt8} (ho : old.length = 16) : ∀ (r : List (List UInt8)) (m n : Nat) (w : Bool), Ok r →
    (preInputs HH old r m n w).1.length ≤ 2 * r.length ∧ (preInputs HH old r m n w).2.1.length = 16 ∧ (preInputs HH old r m n w).2.2.length = 16 := by
  intro r
  induction r with
  | nil => intro m n w _; exact ⟨Nat.le_refl _, ho, ho⟩
  | cons x r ih =>
    intro m n w hok
    have hx := hok x (by simp)
    have hr : Ok r := fun d hd => hok d (by simp [hd])
    rw [preInputs]
    split
    · exact ⟨Nat.zero_le _, ho, ho⟩
    · split
      · exact ⟨Nat.zero_le _, hx, hx⟩
      · split
        · obtain ⟨h1, h2, h3⟩ := ih m (split n) w hr
          refine ⟨?_, h2, sh_length _⟩
          simp only [List.length_append, List.length_cons, List.length_nil]
          omega
        · obtain ⟨h1, h2, h3⟩ := ih (m - split n) (n - split n) false hr
          refine ⟨?_, sh_length _, sh_length _⟩
          simp only [List.length_append, List.length_cons, List.length_nil]
          omega
end Mk
end Go.Proofs.YthpkeaafgabjiaaDoor

/- Rows of texts: several are appended at once; a row whose blocks are left alone; a region that draws, with what follows asked once for all orders, by any indices. No condition but those that are named. -/
namespace Go.Proofs.YthpkeaafgabjiaaDoor
open Go.RowKit
namespace RegC
/-- As regionK, by any indices. -/
theorem regionJ {P : Program} {Q : Exit → Act → World → Prop} {ι : Type} {id : Nat} {a : Act} {w : World} {l : List Oper} (C : World → Prop) (T : List Nat) (V : ι → World → Prop) (F : Act → ι → Act) (hm : P.follows .mixedOrders = true)
    (hQ : ∀ c a d v w, Q (.panic c) (Act.put a d v) w → Q (.panic c) a w)
    (h : ∀ Q' : Exit → Act → World → Prop, (∀ c a d v w, Q' (.panic c) (Act.put a d v) w → Q' (.panic c) a w) → (∀ x W, V x W → Q' .normal (F a x) W) → anyT P .any l.toArray Q' C T l.toArray.size (Array.replicate l.toArray.size false) a w.drew)
    (cont : ∀ x W, V x W → Q .normal (F a x) W) : (Code.region id l.toArray true).wp P Q a w :=
  region C T hm (h Q hQ cont)
end RegC
namespace Mk
open Wire (bv sv Lies)
open Hash (bcj)
/-- Between two bounds nothing has changed. -/
structure Mid (base top : Nat) (w w' : World) : Prop where
  block : ∀ k, base ≤ k → k < top → w'.heap[k]? = w.heap[k]?
  size : w.heap.size ≤ w'.heap.size
theorem Mid.refl (base top : Nat) (w : World) : Mid base top w w := ⟨fun _ _ _ => rfl, Nat.le_refl _⟩
section
variable {w w' w2 : World} {base top n : Nat} {v u : Value} {x : List UInt8} {l : List (List UInt8)}
theorem Mid.on (h : Mid base top w w') (ht : top ≤ w'.heap.size) (hb : Below w'.heap.size w' w2) : Mid base top w w2 :=
  ⟨fun k h1 h2 => (hb.block k (by omega)).trans (h.block k h1 h2), Nat.le_trans h.size hb.size⟩
theorem Mid.cells (h : Mid base top w w') {g : Nat} (hg : g < base ∨ top ≤ g) (vs : List Value) (o : Nat) : Mid base top w (w'.setCells g o vs) :=
  ⟨fun k h1 h2 => (heap_cells (by omega) vs o w').trans (h.block k h1 h2), by
    have := (Hash.below_cells (B := 0) (g := g) (Nat.zero_le _) vs o w').size
    have := h.size
    omega⟩
theorem own_mid {e : TypeId} {size : Nat} {xs : List Value} (h : w.ownsRow base e size v n xs) (hb : Mid base w.heap.size w w') : w'.ownsRow base e size v n xs := by
  refine ⟨h.1, ?_⟩
  rcases h.2 with h2 | ⟨g, cap, cur, hv, hg, hh, r⟩
  · exact .inl h2
  · exact .inr ⟨g, cap, cur, hv, hg, by rw [hb.block g hg (Array.getElem?_eq_some_iff.1 hh).1]; exact hh, r⟩
theorem OwnT.mid (h : OwnT w base v n l) (hb : Mid base w.heap.size w w') : OwnT w' base v n l := by
  obtain ⟨vs, ho, h1, h2⟩ := h
  exact ⟨vs, own_mid ho hb, h1, fun i x hx => by
    obtain ⟨u, hu, g, c, e, hr⟩ := h2 i x hx
    exact ⟨u, hu, g, c, e, own_mid hr hb⟩⟩
end
section
variable {ops : Array Oper} {rest : List Oper} {o : Oper} {a : Act} {w : World} {Q : Exit → Act → World → Prop}
/-- Texts of one's own are appended. -/
theorem append_tg (hgd : o.guard = none) (s x : Operand) (ho : o.op = .call { callee := .builtin .append, args := #[s, x], argTypes := #[48, 48] })
    (base : Nat) (v : Value) (n : Nat) (l : List (List UInt8)) (hs : a.eval s = v) (hown : OwnT w base v n l) (ad : Addr) (m c : Nat) (hx : a.eval x = .slice (some ad) m c) (ys : List (List UInt8)) (us : List Value) (hu : us.length = m) (hy : ys.length = m)
    (hc : ∀ (j : Nat) u, us[j]? = some u → w.cell? (ad.add j) = some u) (hm : ∀ (i : Nat) (y : List UInt8), ys[i]? = some y → ∃ u, us[i]? = some u ∧ Mem w base y u)
    (hn : n + m ≤ 1099511627776) (hbase : base ≤ w.heap.size)
    (h : ∀ v' w', OwnT w' base v' (n + m) (l ++ ys) → Below base w w' → wpList Tryd.prog ops Q rest (a.put o.dst v') w') : wpList Tryd.prog ops Q (o :: rest) a w := by
  obtain ⟨i, hi, hz, hsz, hby⟩ := info_parts txt_info
  obtain ⟨vs, hrow, hlen, hall⟩ := hown
  refine wpList_append_own _ hgd s x _ ho base 38 i (.slice none 0 0) 1 24 Tryd.underlying48 hi hz hsz hby rfl (by decide) v n _ hs hrow ad m c us hx (by omega) hc (fun u hu2 => ?_) (by unfold maxLen; omega) (by omega) hbase ?_
  · obtain ⟨j, hj⟩ := List.getElem?_of_mem hu2
    have hjl := (List.getElem?_eq_some_iff.1 hj).1
    obtain ⟨u', h1, h2⟩ := hm j _ (List.getElem?_eq_getElem (by omega))
    rw [hj] at h1
    rw [Option.some.inj h1]
    exact h2.one
  · intro v' w' ho' hg _
    refine h v' w' ⟨vs ++ us, ho', by simp [hlen, hu, hy], fun i y hy2 => ?_⟩ ((Below.refl _ _).grown hg hbase (fun p hp => (hrow.lt p hp).1))
    by_cases hi : i < l.length
    · rw [List.getElem?_append_left hi] at hy2
      obtain ⟨z, hz, hm2⟩ := hall i y hy2
      exact ⟨z, by rw [List.getElem?_append_left (by omega)]; exact hz, hm2.apart txt_ne hrow hg⟩
    · rw [List.getElem?_append_right (by omega)] at hy2
      obtain ⟨z, hz, hm2⟩ := hm _ y hy2
      exact ⟨z, by rw [List.getElem?_append_right (by omega), hlen]; exact hz, hm2.apart txt_ne hrow hg⟩
/-- A row of one's own is appended to another. -/
theorem append_ts (hgd : o.guard = none) (s x : Operand) (ho : o.op = .call { callee := .builtin .append, args := #[s, x], argTypes := #[48, 48] })
    (base : Nat) (v : Value) (n : Nat) (l : List (List UInt8)) (hs : a.eval s = v) (hown : OwnT w base v n l) (vx : Value) (m : Nat) (hx : a.eval x = vx) (ys : List (List UInt8)) (hy : OwnT w base vx m ys)
    (hn : n + m ≤ 1099511627776) (hbase : base ≤ w.heap.size)
    (h : ∀ v' w', OwnT w' base v' (n + m) (l ++ ys) → Below base w w' → wpList Tryd.prog ops Q rest (a.put o.dst v') w') : wpList Tryd.prog ops Q (o :: rest) a w := by
  have hly := hy.len
  obtain ⟨us, hrow, hlen, hall⟩ := hy
  rcases hrow.2 with ⟨rfl, rfl⟩ | ⟨g, cap, cur, rfl, hg, hcell, hle, hmax, hsz, htk⟩
  · obtain rfl := List.eq_nil_of_length_eq_zero hly
    obtain ⟨i, hi, hz, hsz, hby⟩ := info_parts txt_info
    have hown2 := hown
    obtain ⟨vs, hrow2, _, _⟩ := hown2
    refine wpList_plain hgd fun K hK => ?_
    have hr := run_append_owned_none (P := Tryd.prog) (w := w) base 48 o.type 38 i 1 Tryd.underlying48 hi v n vs hrow2
    unfold Oper.wp execOp
    simp only [ho, resolve, invoke, builtin, Sem.run_bind, Sem.run_pure, Result.andThen_ok, List.map_toArray, List.map_cons, List.map_nil, hs, hx, hr]
    exact hK _ _ (h v w (by rw [List.append_nil]; exact hown) (Below.refl _ _))
  · refine append_tg hgd s x ho base v n l hs hown ⟨g, 0, none⟩ m cap hx ys us (by have := hrow.1; omega) hly (fun j u hu => ?_) hall hn hbase h
    exact hrow.cells (g := g) rfl j _ hu
end
end Mk
end Go.Proofs.YthpkeaafgabjiaaDoor

/- A text of one's own is appended to a row: every block but the row's own is as it was. No condition. -/
namespace Go.Proofs.YthpkeaafgabjiaaDoor
open Go.RowKit
namespace Mk
open Wire (bv sv Lies)
open Hash (bcj Arr)
theorem arr_grown {w w' : World} {row : Option Nat} {g n : Nat} {xs : List Value} (h : Arr w g n xs) (hg : w.grownBy w' row) (hn : 0 < n) (hne : some g ≠ row) : Arr w' g n xs := by
  have hb := hg.block g (h.size hn) hne
  exact h.keep (fun j => World.cell?_of_block (a := ⟨g, j, none⟩) hb) (fun j => World.frozen?_of_block (a := ⟨g, j, none⟩) hb)
section
variable {ops : Array Oper} {rest : List Oper} {o : Oper} {a : Act} {w : World} {Q : Exit → Act → World → Prop}
theorem append_tw (hgd : o.guard = none) (s x : Operand) (ho : o.op = .call { callee := .builtin .append, args := #[s, x], argTypes := #[48, 48] })
    (base : Nat) (v : Value) (n : Nat) (l : List (List UInt8)) (hs : a.eval s = v) (hown : OwnT w base v n l) (ad : Addr) (m c : Nat) (hx : a.eval x = .slice (some ad) m c) (ys : List (List UInt8)) (us : List Value) (hu : us.length = m) (hy : ys.length = m)
    (hc : ∀ (j : Nat) u, us[j]? = some u → w.cell? (ad.add j) = some u) (hm : ∀ (i : Nat) (y : List UInt8), ys[i]? = some y → ∃ u, us[i]? = some u ∧ Mem w base y u)
    (hn : n + m ≤ 1099511627776) (hbase : base ≤ w.heap.size)
    (h : ∀ v' w', OwnT w' base v' (n + m) (l ++ ys) → Below base w w' → w.grownBy w' v.ownBlock → (∀ y u, Mem w base y u → Mem w' base y u) → wpList Tryd.prog ops Q rest (a.put o.dst v') w') : wpList Tryd.prog ops Q (o :: rest) a w := by
  obtain ⟨i, hi, hz, hsz, hby⟩ := info_parts txt_info
  obtain ⟨vs, hrow, hlen, hall⟩ := hown
  refine wpList_append_own _ hgd s x _ ho base 38 i (.slice none 0 0) 1 24 Tryd.underlying48 hi hz hsz hby rfl (by decide) v n _ hs hrow ad m c us hx (by omega) hc (fun u hu2 => ?_) (by unfold maxLen; omega) (by omega) hbase ?_
  · obtain ⟨j, hj⟩ := List.getElem?_of_mem hu2
    have hjl := (List.getElem?_eq_some_iff.1 hj).1
    obtain ⟨u', h1, h2⟩ := hm j _ (List.getElem?_eq_getElem (by omega))
    rw [hj] at h1
    rw [Option.some.inj h1]
    exact h2.one
  · intro v' w' ho' hg _
    refine h v' w' ⟨vs ++ us, ho', by simp [hlen, hu, hy], fun i y hy2 => ?_⟩ ((Below.refl _ _).grown hg hbase (fun p hp => (hrow.lt p hp).1)) hg (fun y u hm2 => hm2.apart txt_ne hrow hg)
    by_cases hi : i < l.length
    · rw [List.getElem?_append_left hi] at hy2
      obtain ⟨z, hz, hm2⟩ := hall i y hy2
      exact ⟨z, by rw [List.getElem?_append_left (by omega)]; exact hz, hm2.apart txt_ne hrow hg⟩
    · rw [List.getElem?_append_right (by omega)] at hy2
      obtain ⟨z, hz, hm2⟩ := hm _ y hy2
      exact ⟨z, by rw [List.getElem?_append_right (by omega), hlen]; exact hz, hm2.apart txt_ne hrow hg⟩
end
end Mk
end Go.Proofs.YthpkeaafgabjiaaDoor

