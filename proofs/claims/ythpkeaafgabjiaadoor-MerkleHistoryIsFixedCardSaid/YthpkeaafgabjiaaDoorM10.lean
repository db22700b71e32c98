/- MPr; MPair; MPairB; MVfP: what each of these parts proves stands ahead of it. -/
import Derived.Test.YthpkeaafgabjiaaDoorM9
import Derived.Test.YthpkeaafgabjiaaDoorM30
/- A pair of digests of the reference's, in a block of its own. No condition. -/
namespace Go.Proofs.YthpkeaafgabjiaaDoor
open Go.RowKit
namespace Mk
open Wire (bv sv Lies)
open Hash (Arr bcj)

def cellsP (x y : List UInt8) (ok : Bool) : List Value := x.map bv ++ (y.map bv ++ [Value.bool ok])
/-- A pair of digests and whether it is one. -/
def pv (x y : List UInt8) (ok : Bool) : Value := .agg (cellsP x y ok).toArray
theorem list16 {d : List UInt8} (h : d.length = 16) : ∃ a0 a1 a2 a3 a4 a5 a6 a7 a8 a9 a10 a11 a12 a13 a14 a15, d = [a0, a1, a2, a3, a4, a5, a6, a7, a8, a9, a10, a11, a12, a13, a14, a15] := by
  match d, h with
  | [a0, a1, a2, a3, a4, a5, a6, a7, a8, a9, a10, a11, a12, a13, a14, a15], _ => exact ⟨_, _, _, _, _, _, _, _, _, _, _, _, _, _, _, _, rfl⟩
theorem built_p {x y : List UInt8} (hx : x.length = 16) (hy : y.length = 16) (b : Bool) : Tryd.prog.built 79 [(0, dv x), (1, dv y), (2, .bool b)] = some (cellsP x y b).toArray := by
  obtain ⟨a0, a1, a2, a3, a4, a5, a6, a7, a8, a9, a10, a11, a12, a13, a14, a15, rfl⟩ := list16 hx
  obtain ⟨b0, b1, b2, b3, b4, b5, b6, b7, b8, b9, b10, b11, b12, b13, b14, b15, rfl⟩ := list16 hy
  kernel_rfl
theorem built_p0 : Tryd.prog.built 79 [] = some (cellsP zero zero false).toArray := by kernel_rfl
theorem row_p : ∃ d, Tryd.prog.underlying 79 = some d ∧ d.isRow = true := by
  exact ⟨_, Tryd.underlying79, rfl⟩
theorem cellsP_length {x y : List UInt8} (hx : x.length = 16) (hy : y.length = 16) (b : Bool) : (cellsP x y b).length = 33 := by simp [cellsP, hx, hy]
theorem info_p {x y : List UInt8} (hx : x.length = 16) (hy : y.length = 16) (b : Bool) : (Tryd.prog.info? 79).map (·.size) = some (cellsP x y b).length := by
  rw [cellsP_length hx hy]; kernel_rfl
theorem one_p (x y : List UInt8) (b : Bool) : ((cellsP x y b).toArray).all (·.oneCell') = true := all_oneCell_toArray (fun v hv => by
  unfold cellsP at hv
  rcases List.mem_append.1 hv with h | h
  · obtain ⟨c, _, rfl⟩ := List.mem_map.1 h; rfl
  · rcases List.mem_append.1 h with h | h
    · obtain ⟨c, _, rfl⟩ := List.mem_map.1 h; rfl
    · obtain rfl := List.mem_singleton.1 h; rfl)
section
variable {W W' : World} {g : Nat} {x y : List UInt8} {b : Bool}
/-- A pair lies in a block of its own. -/
structure Pr (W : World) (g : Nat) (x y : List UInt8) (b : Bool) : Prop where
  arr : Arr W g 33 (cellsP x y b)
  x : x.length = 16
  y : y.length = 16
theorem Pr.lt (h : Pr W g x y b) : g < W.heap.size := h.arr.size (by omega)
theorem Pr.on (h : Pr W g x y b) (hb : Below W.heap.size W W') : Pr W' g x y b := ⟨h.arr.below hb h.lt, h.x, h.y⟩
theorem Pr.there (h : Pr W g x y b) : W.there g 0 33 := h.arr.there
theorem Pr.first (h : Pr W g x y b) : W.rangeAt g 0 (x.map bv) := fun j u hu => by
  refine h.arr.range j u ?_
  unfold cellsP
  rw [List.getElem?_append_left (by rw [List.length_map]; have := (List.getElem?_eq_some_iff.1 hu).1; rw [List.length_map] at this; exact this)]
  exact hu
theorem Pr.second (h : Pr W g x y b) : W.rangeAt g 16 (y.map bv) := fun j u hu => by
  have hj : j < 16 := by have := (List.getElem?_eq_some_iff.1 hu).1; rw [List.length_map, h.y] at this; exact this
  have := h.arr.range (16 + j) u (by
    unfold cellsP
    rw [List.getElem?_append_right (by rw [List.length_map, h.x]; omega), List.length_map, h.x, show 16 + j - 16 = j by omega, List.getElem?_append_left (by rw [List.length_map, h.y]; exact hj)]
    exact hu)
  rwa [Nat.zero_add] at this
theorem Pr.third (h : Pr W g x y b) : W.cell? ⟨g, 32, none⟩ = some (.bool b) := by
  have := h.arr.range 32 (.bool b) (by
    unfold cellsP
    rw [List.getElem?_append_right (by rw [List.length_map, h.x]; omega), List.length_map, h.x, List.getElem?_append_right (by rw [List.length_map, h.y]; omega), List.length_map, h.y]
    rfl)
  exact this
theorem pr_new (W : World) (hx : x.length = 16) (hy : y.length = 16) (b : Bool) (t : TypeId) : Pr (W.alloc (.cells (cellsP x y b).toArray t)) W.heap.size x y b := by
  have h := Hash.arr_new W (cellsP x y b).toArray t
  have hs : (cellsP x y b).toArray.size = 33 := by rw [List.size_toArray, cellsP_length hx hy]
  rw [hs] at h
  exact ⟨h, hx, hy⟩
theorem Pr.put {x2 y2 : List UInt8} {b2 : Bool} (h : Pr W g x y b) (hx : x2.length = 16) (hy : y2.length = 16) : Pr (W.setCells g 0 (cellsP x2 y2 b2)) g x2 y2 b2 := ⟨h.arr.over (cellsP_length hx hy _), hx, hy⟩
theorem Pr.aside {k : Nat} (h : Pr W g x y b) (hk : g ≠ k) (xs : List Value) : Pr (W.setCells k 0 xs) g x y b := ⟨h.arr.aside hk _, h.x, h.y⟩
end
def GivesX (x y : List UInt8) (ok : Bool) (w : World) (e : Ending) (w' : World) : Prop := e = .returned (pv x y ok) ∧ Below w.heap.size w w'
section
variable {ops : Array Oper} {rest : List Oper} {o : Oper} {a : Act} {w : World} {Q : Exit → Act → World → Prop}
set_option maxRecDepth 100000 in
theorem build_p (p q r : Operand) (ho : o.op = .build 79 #[(0, p), (1, q), (2, r)]) (hgd : o.guard = none) {x y : List UInt8} {b : Bool} (hp : a.eval p = dv x) (hq : a.eval q = dv y) (hr : a.eval r = .bool b) (hx : x.length = 16) (hy : y.length = 16)
    (h : wpList Tryd.prog ops Q rest (a.put o.dst (pv x y b)) w) : wpList Tryd.prog ops Q (o :: rest) a w := by
  have hb : Tryd.prog.built 79 ((#[(0, p), (1, q), (2, r)] : Array (Nat × Operand)).map fun (i, x) => (i, a.eval x)).toList = some (cellsP x y b).toArray := by
    rw [Array.toList_map]
    simp only [List.map_cons, List.map_nil, hp, hq, hr]
    exact built_p hx hy b
  refine wpList_build hgd _ _ ho (by rw [hb]; rfl) ?_
  rw [hb]
  exact h
set_option maxRecDepth 100000 in
theorem build_p0 (ho : o.op = .build 79 #[]) (hgd : o.guard = none)
    (h : wpList Tryd.prog ops Q rest (a.put o.dst (pv zero zero false)) w) : wpList Tryd.prog ops Q (o :: rest) a w := by
  have hb : Tryd.prog.built 79 ((#[] : Array (Nat × Operand)).map fun (i, x) => (i, a.eval x)).toList = some (cellsP zero zero false).toArray := by
    rw [Array.toList_map]
    exact built_p0
  refine wpList_build hgd _ _ ho (by rw [hb]; rfl) ?_
  rw [hb]
  exact h
theorem store_p (x y : Operand) (ho : o.op = .store 79 x y) (hgd : o.guard = none) (g : Nat) (hx : a.eval x = .pointer (some ⟨g, 0, none⟩)) {u v : List UInt8} {b : Bool} (hy : a.eval y = pv u v b) (hu : u.length = 16) (hv : v.length = 16) (ht : w.there g 0 33)
    (h : wpList Tryd.prog ops Q rest (a.put o.dst undef) (w.setCells g 0 (cellsP u v b))) : wpList Tryd.prog ops Q (o :: rest) a w :=
  wpList_store_mid hgd 79 x y ho g 0 (cellsP u v b).toArray hx hy (by rw [List.size_toArray, cellsP_length hu hv]; exact ht) (by rw [List.size_toArray]; exact info_p hu hv b) (one_p u v b) h
end
theorem pr_end {w W : World} {g : Nat} {x y u v : List UInt8} {b c : Bool} (h : Pr W g x y b) (hu : u.length = 16) (hv : v.length = 16) (hb : Below w.heap.size w W) (hg : w.heap.size ≤ g) :
    (loadVar 79 ⟨g, 0, none⟩).run Tryd.prog (W.setCells g 0 (cellsP u v c)) = .ok (pv u v c) (W.setCells g 0 (cellsP u v c)) ∧ Below w.heap.size w (W.setCells g 0 (cellsP u v c)) := by
  obtain ⟨d, h1, h2⟩ := row_p
  exact Hash.arr_end (w := w) (wr := W) (g := g) (xs := cellsP u v c) 79 hb hg (by rw [cellsP_length hu hv]; exact h.there) h1 h2 (info_p hu hv c)
end Mk
end Go.Proofs.YthpkeaafgabjiaaDoor

/- The reference of package merkle: pairOf, VerifyPrefix. Conditions: the slice reads as a list of digests, the tables are laid. -/
namespace Go.Proofs.YthpkeaafgabjiaaDoor
open Go.RowKit
namespace Mk
open Wire (bv sv Lies)
open Hash (bcj)

/-- pairOf's own blocks: the digest that came in, room for what goes out. -/
structure Pb (w W : World) (old : List UInt8) : Prop where
  o : Dg W w.heap.size old
  r : Pr W (w.heap.size + 1) zero zero false
  z : Below w.heap.size w W
theorem Pb.on {w W W' : World} {old : List UInt8} (h : Pb w W old) (hb : Below W.heap.size W W') : Pb w W' old := ⟨h.o.on hb, h.r.on hb, bcj h.z hb⟩
theorem pb_new (w : World) {old : List UInt8} (ho : old.length = 16) (t t2 : TypeId) : Pb w ((w.alloc (.cells (old.map bv).toArray t)).alloc (.cells #[.int .u8 0, .int .u8 0, .int .u8 0, .int .u8 0, .int .u8 0, .int .u8 0, .int .u8 0, .int .u8 0, .int .u8 0, .int .u8 0, .int .u8 0, .int .u8 0, .int .u8 0, .int .u8 0, .int .u8 0, .int .u8 0, .int .u8 0, .int .u8 0, .int .u8 0, .int .u8 0, .int .u8 0, .int .u8 0, .int .u8 0, .int .u8 0, .int .u8 0, .int .u8 0, .int .u8 0, .int .u8 0, .int .u8 0, .int .u8 0, .int .u8 0, .int .u8 0, .bool false] t2)) old := by
  have h1 := dg_new w ho t
  have h2 := pr_new (w.alloc (.cells (old.map bv).toArray t)) (x := zero) (y := zero) rfl rfl false t2
  have hs : (w.alloc (.cells (old.map bv).toArray t)).heap.size = w.heap.size + 1 := World.size_alloc _ _
  rw [hs] at h2
  exact ⟨h1.on (Wire.b1 _ _), h2, bcj (Wire.b1 _ _) (Wire.b1 _ _)⟩
theorem Pb.fin {w W : World} {old u v : List UInt8} (h : Pb w W old) (hu : u.length = 16) (hv : v.length = 16) (c : Bool) :
    (loadVar 79 ⟨w.heap.size + 1, 0, none⟩).run Tryd.prog (W.setCells (w.heap.size + 1) 0 (cellsP u v c)) = .ok (pv u v c) (W.setCells (w.heap.size + 1) 0 (cellsP u v c)) ∧ Below w.heap.size w (W.setCells (w.heap.size + 1) 0 (cellsP u v c)) :=
  pr_end h.r hu hv h.z (by omega)

set_option maxRecDepth 100000 in
set_option maxHeartbeats 1000000 in
theorem refPair_whole (old : List UInt8) (ho : old.length = 16) (m n c : Nat) (A : Option Addr) (w : World) :
    Calls Tryd.prog 48 #[dv old, .int .i64 (m : Int), .int .i64 (m : Int), .bool true, .slice A n c] w (GivesX old old (decide (n = 0)) w) := by
  have Y := pb_new w ho 29 79
  have HO := Lib.hid ho
  have hb0 : ((n : Int) == 0) = decide (n = 0) := by rw [Bool.eq_iff_iff]; simp
  generalize decide (n = 0) = B at *
  unfold dv
  clear ho
  go_enter Tryd.func48, Tryd.ntmps48
  go_wp2_with (first
    | (refine load_d 22 rfl rfl _ rfl w.heap.size 0 rfl old HO.out Y.o.range ?_)
    | (refine load_d 23 rfl rfl _ rfl w.heap.size 0 rfl old HO.out Y.o.range ?_)
    | (refine build_p (.tmp 22) (.tmp 23) (.tmp 26) rfl rfl (x := old) (y := old) (b := B) rfl rfl rfl HO.out HO.out ?_)
    | (refine store_p (.tmp 10) (.tmp 27) rfl rfl (w.heap.size + 1) rfl (u := old) (v := old) (b := B) rfl HO.out HO.out Y.r.there ?_))
  have HE := Y.fin HO.out HO.out B
  refine bodyPost_ret (v := pv old old B) ?_ rfl ⟨rfl, HE.2⟩
  simp [results, Tryd.results48, asAddr]
  rw [HE.1]

set_option maxRecDepth 100000 in
set_option maxHeartbeats 1000000 in
theorem refPair_short (old : List UInt8) (ho : old.length = 16) (m n c : Nat) (whole : Bool) (A : Option Addr) (w : World) (hw : ¬ (m = n ∧ whole = true)) :
    Calls Tryd.prog 48 #[dv old, .int .i64 (m : Int), .int .i64 (n : Int), .bool whole, .slice A 0 c] w (GivesX zero zero false w) := by
  have Y := pb_new w ho 29 79
  have HO := Lib.hid ho
  have HZ := Lib.hid zero_length
  clear ho
  have hw2 : (¬ (m : Int) = (n : Int)) ∨ ((m : Int) = (n : Int) ∧ whole = false) := by
    by_cases h : m = n
    · right; subst h; refine ⟨rfl, ?_⟩; cases whole with
      | false => rfl
      | true => exact absurd ⟨rfl, rfl⟩ hw
    · left; omega
  clear hw
  unfold dv
  rcases hw2 with h | ⟨h, rfl⟩
  all_goals
    go_enter Tryd.func48, Tryd.ntmps48
    go_wp2_with (first
      | (refine build_p0 rfl rfl ?_)
      | (refine store_p (.tmp 10) (.tmp 31) rfl rfl (w.heap.size + 1) rfl (u := zero) (v := zero) (b := false) rfl HZ.out HZ.out Y.r.there ?_))
    have HE := Y.fin HZ.out HZ.out false
    refine bodyPost_ret (v := pv zero zero false) ?_ rfl ⟨rfl, HE.2⟩
    simp [results, Tryd.results48, asAddr]
    rw [HE.1]

/-- The digest that is read last lies behind them. -/
structure Pl (w W : World) (old x : List UInt8) : Prop where
  p : Pb w W old
  l : Dg W (w.heap.size + 2) x
theorem Pl.on {w W W' : World} {old x : List UInt8} (h : Pl w W old x) (hb : Below W.heap.size W W') : Pl w W' old x := ⟨h.p.on hb, h.l.on hb⟩
theorem pl_room {w W : World} {old : List UInt8} (h : Pb w W old) (hs : W.heap.size = w.heap.size + 2) (t : TypeId) : Pl w (W.alloc (.cells #[.int .u8 0, .int .u8 0, .int .u8 0, .int .u8 0, .int .u8 0, .int .u8 0, .int .u8 0, .int .u8 0, .int .u8 0, .int .u8 0, .int .u8 0, .int .u8 0, .int .u8 0, .int .u8 0, .int .u8 0, .int .u8 0] t)) old zero := by
  have h1 : Dg (W.alloc (.cells #[.int .u8 0, .int .u8 0, .int .u8 0, .int .u8 0, .int .u8 0, .int .u8 0, .int .u8 0, .int .u8 0, .int .u8 0, .int .u8 0, .int .u8 0, .int .u8 0, .int .u8 0, .int .u8 0, .int .u8 0, .int .u8 0] t)) W.heap.size zero := dg_zero W t
  rw [hs] at h1
  exact ⟨h.on (Wire.b1 _ _), h1⟩
theorem Pl.put {w W : World} {old y x : List UInt8} (h : Pl w W old y) (hx : x.length = 16) : Pl w (W.setCells (w.heap.size + 1 + 1) 0 (x.map bv)) old x :=
  ⟨⟨h.p.o.aside (by omega) _, h.p.r.aside (by omega) _, h.p.z.trans (Hash.below_cells (B := w.heap.size) (by omega) _ _ _)⟩, h.l.put hx⟩
/-- The pair of the rest lies in a block of its own. -/
structure Pc (w W : World) (old x : List UInt8) (g : Nat) (X Y : List UInt8) (B : Bool) : Prop where
  l : Pl w W old x
  q : Pr W g X Y B
theorem Pc.on {w W W' : World} {old x X Y : List UInt8} {g : Nat} {B : Bool} (h : Pc w W old x g X Y B) (hb : Below W.heap.size W W') : Pc w W' old x g X Y B := ⟨h.l.on hb, h.q.on hb⟩
theorem pc_room (W : World) (t : TypeId) : Pr (W.alloc (.cells #[.int .u8 0, .int .u8 0, .int .u8 0, .int .u8 0, .int .u8 0, .int .u8 0, .int .u8 0, .int .u8 0, .int .u8 0, .int .u8 0, .int .u8 0, .int .u8 0, .int .u8 0, .int .u8 0, .int .u8 0, .int .u8 0, .int .u8 0, .int .u8 0, .int .u8 0, .int .u8 0, .int .u8 0, .int .u8 0, .int .u8 0, .int .u8 0, .int .u8 0, .int .u8 0, .int .u8 0, .int .u8 0, .int .u8 0, .int .u8 0, .int .u8 0, .int .u8 0, .bool false] t)) W.heap.size zero zero false := pr_new W (x := zero) (y := zero) rfl rfl false t
theorem pc_new {w W : World} {old x X Y : List UInt8} {B : Bool} (h : Pl w W old x) (hX : X.length = 16) (hY : Y.length = 16) (t : TypeId) :
    Pc w ((W.alloc (.cells #[.int .u8 0, .int .u8 0, .int .u8 0, .int .u8 0, .int .u8 0, .int .u8 0, .int .u8 0, .int .u8 0, .int .u8 0, .int .u8 0, .int .u8 0, .int .u8 0, .int .u8 0, .int .u8 0, .int .u8 0, .int .u8 0, .int .u8 0, .int .u8 0, .int .u8 0, .int .u8 0, .int .u8 0, .int .u8 0, .int .u8 0, .int .u8 0, .int .u8 0, .int .u8 0, .int .u8 0, .int .u8 0, .int .u8 0, .int .u8 0, .int .u8 0, .int .u8 0, .bool false] t)).setCells W.heap.size 0 (cellsP X Y B)) old x W.heap.size X Y B :=
  ⟨h.on ((Wire.b1 W _).trans (Hash.below_cells (Nat.le_refl _) _ _ _)), (pc_room W t).put hX hY⟩
theorem pair_len {old : List UInt8} (ho : old.length = 16) : ∀ (r : List (List UInt8)) (m n : Nat) (w : Bool), Ok r → (pair HH zero old r m n w).1.length = 16 ∧ (pair HH zero old r m n w).2.1.length = 16 := by
  intro r
  induction r with
  | nil => intro m n w _; unfold pair; split <;> exact ⟨by first | exact ho | rfl, by first | exact ho | rfl⟩
  | cons x r ih =>
    intro m n w hok
    have hx := hok x (by simp)
    have hr : Ok r := fun d hd => hok d (by simp [hd])
    unfold pair
    split
    · exact ⟨ho, ho⟩
    · split
      · exact ⟨hx, hx⟩
      · split
        · exact ⟨(ih _ _ _ hr).1, node_length _ _⟩
        · exact ⟨node_length _ _, node_length _ _⟩

end Mk
end Go.Proofs.YthpkeaafgabjiaaDoor

/- The reference of package merkle: pairOf. Conditions: the slice reads as a list of digests, the tables are laid. -/
namespace Go.Proofs.YthpkeaafgabjiaaDoor
open Go.RowKit
namespace Mk
open Wire (bv sv Lies)
open Hash (bcj)

theorem wrapNat {n : Nat} (h : n ≤ 9223372036854775807) : wrap64 (n : Int) = (n : Int) := by simp only [wrap64]; omega

set_option maxRecDepth 100000 in
set_option maxHeartbeats 1000000 in
theorem refPair_any : ∀ (q : Nat) (p : List (List UInt8)) (m n c : Nat) (whole : Bool) (A : Option Addr) (old : List UInt8) (w : World), LiesD w w.heap.size A q c p → TT w → 1 ≤ m → m ≤ n → n ≤ 9223372036854775807 → old.length = 16 →
    Calls Tryd.prog 48 #[dv old, .int .i64 (m : Int), .int .i64 (n : Int), .bool whole, .slice A q c] w
      (GivesX (pair HH zero old p.reverse m n whole).1 (pair HH zero old p.reverse m n whole).2.1 (pair HH zero old p.reverse m n whole).2.2 w) := by
  intro q
  induction q with
  | zero =>
    intro p m n c whole A old w hl ht h1 hm hn ho
    obtain rfl := List.eq_nil_of_length_eq_zero hl.len
    show Calls _ _ _ _ (GivesX (pair HH zero old [] m n whole).1 (pair HH zero old [] m n whole).2.1 (pair HH zero old [] m n whole).2.2 w)
    unfold pair
    by_cases h : m = n ∧ whole = true
    · rw [if_pos h]
      obtain ⟨rfl, rfl⟩ := h
      exact refPair_whole old ho m 0 c A w
    · rw [if_neg h]
      exact refPair_short old ho m n c whole A w h
  | succ q ih =>
    intro p m n c whole A old w hl ht h1 hm hn ho
    have hln := hl.len
    have hmost : c ≤ 9223372036854775807 := by have := hl.lies.most; unfold maxLen at this; omega
    have hle := hl.lies.le
    obtain ⟨r, x, rfl⟩ : ∃ r x, p = r ++ [x] := ⟨p.dropLast, p.getLast (by intro h; rw [h] at hln; cases hln), (List.dropLast_concat_getLast _).symm⟩
    have hrl : r.length = q := by rw [List.length_append, List.length_singleton] at hln; omega
    obtain ⟨b, o, rfl, hbb, hrx⟩ := hl.row (j := q) (d := x) (by rw [List.getElem?_append_right (by omega), hrl, Nat.sub_self]; rfl)
    have hR := hl.take (k := q) (by omega)
    rw [List.take_left' hrl] at hR
    have hxl : x.length = 16 := hl.ok x (by simp)
    have hok := hR.ok
    rw [List.reverse_append, List.reverse_singleton, List.singleton_append]
    by_cases h : m = n ∧ whole = true
    · obtain ⟨rfl, rfl⟩ := h
      rw [pair, if_pos ⟨rfl, rfl⟩]
      have := refPair_whole old ho m (q + 1) c (some ⟨b, o, none⟩) w
      rw [show decide (q + 1 = 0) = false by simp] at this
      exact this
    have HO := Lib.hid ho
    have HX := Lib.hid hxl
    have HRX : Hid (∀ W, Below w.heap.size w W → W.rangeAt b (o + q * 16) (x.map bv)) := Lib.hid (fun W h j u hu => (h.cell (by show b < w.heap.size; exact hbb)).trans (hrx j u hu))
    have Y := pb_new w ho 29 79
    have e1 : (((q + 1 : Nat) : Int) == 0) = false := by simp; omega
    have e2 : ¬ ((q + 1 : Nat) : Int) = 0 := by omega
    have e3 : ((q + 1 : Nat) : Int) - 1 = (q : Int) := by omega
    have e4 : wrap64 (q : Int) = (q : Int) := by simp only [wrap64]; omega
    have HS : Hid (∀ A B : Obj, ((w.alloc A).alloc B).heap.size = w.heap.size + 2) := Lib.hid (fun A B => by rw [World.size_alloc, World.size_alloc])
    by_cases hmn : m = n
    · subst hmn
      obtain rfl : whole = false := by cases whole with
        | false => rfl
        | true => exact absurd ⟨rfl, rfl⟩ h
      rw [pair, if_neg h, if_pos rfl]
      have hb0 : ((q : Int) == 0) = r.reverse.isEmpty := by
        rw [Bool.eq_iff_iff, List.isEmpty_iff, List.reverse_eq_nil_iff]
        constructor
        · intro h; exact List.eq_nil_of_length_eq_zero (by simp at h; omega)
        · intro h; rw [h] at hrl; simp at hrl; simp; omega
      show Calls _ _ _ _ (GivesX x x r.reverse.isEmpty w)
      generalize r.reverse.isEmpty = B at *
      clear ih hl hR hln hrl hrx ho hxl hok h
      unfold dv
      go_enter Tryd.func48, Tryd.ntmps48
      go_wp2_with (first
        | (refine load_d 37 rfl rfl _ rfl b (o + q * 16) rfl x HX.out (HRX.out _ Y.z) ?_)
        | (refine store_d (.tmp 11) (.tmp 37) rfl rfl (w.heap.size + 1 + 1) 0 rfl x rfl HX.out (pl_room Y (HS.out _ _) _).l.there ?_; refine Hash.gen_world (Pq := fun W => Pl w W old x) (G := fun W => wpList _ _ _ _ _ W) ((pl_room Y (HS.out _ _) _).put HX.out) ?_; clear Y; intro W2 Y)
        | (refine load_d 46 rfl rfl _ rfl (w.heap.size + 1 + 1) 0 rfl x HX.out Y.l.range ?_)
        | (refine load_d 47 rfl rfl _ rfl (w.heap.size + 1 + 1) 0 rfl x HX.out Y.l.range ?_)
        | (refine build_p (.tmp 46) (.tmp 47) (.tmp 50) rfl rfl (x := x) (y := x) (b := B) rfl rfl rfl HX.out HX.out ?_)
        | (refine store_p (.tmp 10) (.tmp 51) rfl rfl (w.heap.size + 1) rfl (u := x) (v := x) (b := B) rfl HX.out HX.out Y.p.r.there ?_))
      have HE := Y.p.fin HX.out HX.out B
      refine bodyPost_ret (v := pv x x B) ?_ rfl ⟨rfl, HE.2⟩
      simp [results, Tryd.results48, asAddr, Act.put]
      rw [HE.1]
    · have hmn2 : ¬ (m : Int) = (n : Int) := by omega
      have h2 : 2 ≤ n := by omega
      have hs1 := split_lt h2
      have hs2 := split_pos n
      have HSP := Lib.hid (fun W => refSplit_any n h2 hn W)
      have HTT := Lib.hid ht
      by_cases hlow : m ≤ split n
      · rw [pair_low HH hmn hlow]
        generalize split n = k at *
        have z0 : (m : Int) ≤ (k : Int) := by omega
        have hpl := pair_len ho r.reverse m k whole (fun d hd => hok d (List.mem_reverse.1 hd))
        have HPA : Hid (∀ W, Below w.heap.size w W → Calls Tryd.prog 48 #[dv old, .int .i64 (m : Int), .int .i64 (k : Int), .bool whole, .slice (some ⟨b, o, none⟩) q c] W
            (GivesX (pair HH zero old r.reverse m k whole).1 (pair HH zero old r.reverse m k whole).2.1 (pair HH zero old r.reverse m k whole).2.2 W)) :=
          Lib.hid (fun W h => ih r m k c whole _ old W ((hR.below h).more h.size) (HTT.out.on h) h1 hlow (by omega) ho)
        show Calls _ _ _ _ (GivesX (pair HH zero old r.reverse m k whole).1 (HH.node (pair HH zero old r.reverse m k whole).2.1 x) (pair HH zero old r.reverse m k whole).2.2 w)
        generalize (pair HH zero old r.reverse m k whole).1 = X at *
        generalize (pair HH zero old r.reverse m k whole).2.1 = X2 at *
        generalize (pair HH zero old r.reverse m k whole).2.2 = B at *
        have HX1 := Lib.hid hpl.1
        have HX2 := Lib.hid hpl.2
        have HNL := Lib.hid (node_length X2 x)
        have HND : Hid (∀ W, TT W → Calls Tryd.prog 45 #[.agg (X2.map bv).toArray, .agg (x.map bv).toArray] W (GivesD (HH.node X2 x) W)) := Lib.hid (fun W h => refNode_any _ _ HX2.out HX.out W h)
        generalize HH.node X2 x = D at *
        clear ih hl ht hR hln hrl hrx ho hxl hok h hpl
        unfold dv
        go_enter Tryd.func48, Tryd.ntmps48
        go_wp2_with (first
          | (refine load_d 37 rfl rfl _ rfl b (o + q * 16) rfl x HX.out (HRX.out _ Y.z) ?_)
          | (refine store_d (.tmp 11) (.tmp 37) rfl rfl (w.heap.size + 1 + 1) 0 rfl x rfl HX.out (pl_room Y (HS.out _ _) _).l.there ?_; refine Hash.gen_world (Pq := fun W => Pl w W old x) (G := fun W => wpList _ _ _ _ _ W) ((pl_room Y (HS.out _ _) _).put HX.out) ?_; clear Y; intro W2 Y)
          | (go_at_call 36; (with_reducible refine (HSP.out _).mono ?_); rintro e w3 ⟨rfl, hb⟩; replace Y := Y.on hb; clear hb)
          | (refine load_d 57 rfl rfl _ rfl w.heap.size 0 rfl old HO.out Y.p.o.range ?_)
          | (go_at_call 48; (with_reducible refine (HPA.out _ Y.p.z).mono ?_); rintro e w5 ⟨rfl, hb⟩; replace Y := Y.on hb; clear hb)
          | (refine store_p (.tmp 14) (.tmp 62) rfl rfl w5.heap.size rfl (u := X) (v := X2) (b := B) rfl HX1.out HX2.out (pc_room w5 _).there ?_; refine Hash.gen_world (Pq := fun W => Pc w W old x w5.heap.size X X2 B) (G := fun W => wpList _ _ _ _ _ W) (pc_new Y HX1.out HX2.out _) ?_; clear Y; intro W6 Y))
        have HB : Hid (∀ W, Pc w W old x w5.heap.size X X2 B → W.cell? ⟨w5.heap.size, 32, none⟩ = some (.bool B)) := Lib.hid (fun W h => h.q.third)
        refine QTail.region (C := fun W => Pc w W old x w5.heap.size X X2 B) 8 (by kernel_rfl) (by kernel_rfl) (Y.on (Hash.belowD _)) ?_
        (refine wpQuiet_step (fun K hK => ?_); go_simp; (first | refine hK _ ?_ | refine ⟨_, fun _ _ => rfl, hK _ ?_⟩); clear hK K)
        refine QTail.loadC (by rfl) 29 (.tmp 63) rfl w5.heap.size 0 rfl (X.map bv) _ (fun W h => h.q.first) und_d rfl (info_d HX1.out) ?_
        (refine wpQuiet_step (fun K hK => ?_); go_simp; (first | refine hK _ ?_ | refine ⟨_, fun _ _ => rfl, hK _ ?_⟩); clear hK K)
        refine QTail.loadC (by rfl) 29 (.tmp 65) rfl w5.heap.size 16 rfl (X2.map bv) _ (fun W h => h.q.second) und_d rfl (info_d HX2.out) ?_
        refine QTail.loadC (by rfl) 29 (.tmp 11) rfl (w.heap.size + 1 + 1) 0 rfl (x.map bv) _ (fun W h => h.l.l.range) und_d rfl (info_d HX.out) ?_
        (refine wpQuiet_step (fun K hK => ?_); go_simp; refine ⟨_, fun W hW => (HND.out W (HTT.out.on hW.l.p.z)).mono fun e w' ⟨he, hb⟩ => ⟨he, hW.on hb⟩, hK _ ?_⟩; clear hK K)
        (refine wpQuiet_step (fun K hK => ?_); go_simp; (first | refine hK _ ?_ | refine ⟨_, fun _ _ => rfl, hK _ ?_⟩); clear hK K)
        (refine wpQuiet_step (fun K hK => ?_); go_simp; refine ⟨(.bool B), fun W hW => ?_, hK _ ?_⟩; (first | (rw [HB.out W hW]; exact ⟨rfl, rfl⟩) | (rw [HB.out W hW]; rfl)); clear hK K)
        refine wpQuiet_nil ?_
        clear Y
        intro w7 Y
        simp only [List.drop_succ_cons, List.drop_zero]
        refine build_p (.tmp 64) (.tmp 68) (.tmp 70) rfl rfl (x := X) (y := D) (b := B) rfl rfl rfl HX1.out HNL.out ?_
        refine store_p (.tmp 10) (.tmp 71) rfl rfl (w.heap.size + 1) rfl (u := X) (v := D) (b := B) rfl HX1.out HNL.out Y.l.p.r.there ?_
        go_wp2
        have HE := Y.l.p.fin HX1.out HNL.out B
        refine bodyPost_ret (v := pv X D B) ?_ rfl ⟨rfl, HE.2⟩
        simp [results, Tryd.results48, asAddr, Act.put]
        rw [HE.1]
      · rw [pair_high HH hmn hlow]
        generalize split n = k at *
        have z0 : ¬ (m : Int) ≤ (k : Int) := by omega
        have h3 : 1 ≤ m - k := by omega
        have h4 : m - k ≤ n - k := by omega
        have h5 : n - k ≤ 9223372036854775807 := by omega
        have z6 : (m : Int) - (k : Int) = ((m - k : Nat) : Int) := by omega
        have z8 : (n : Int) - (k : Int) = ((n - k : Nat) : Int) := by omega
        have z9 := wrapNat (Nat.le_trans h4 h5)
        have z10 := wrapNat h5
        have z5 : wrap64 ((m : Int) - (k : Int)) = ((m - k : Nat) : Int) := by rw [z6]; exact z9
        have z7 : wrap64 ((n : Int) - (k : Int)) = ((n - k : Nat) : Int) := by rw [z8]; exact z10
        have hpl := pair_len ho r.reverse (m - k) (n - k) false (fun d hd => hok d (List.mem_reverse.1 hd))
        have HPA : Hid (∀ W, Below w.heap.size w W → Calls Tryd.prog 48 #[dv old, .int .i64 ((m - k : Nat) : Int), .int .i64 ((n - k : Nat) : Int), .bool false, .slice (some ⟨b, o, none⟩) q c] W
            (GivesX (pair HH zero old r.reverse (m - k) (n - k) false).1 (pair HH zero old r.reverse (m - k) (n - k) false).2.1 (pair HH zero old r.reverse (m - k) (n - k) false).2.2 W)) :=
          Lib.hid (fun W h => ih r (m - k) (n - k) c false _ old W ((hR.below h).more h.size) (HTT.out.on h) h3 h4 h5 ho)
        show Calls _ _ _ _ (GivesX (HH.node x (pair HH zero old r.reverse (m - k) (n - k) false).1) (HH.node x (pair HH zero old r.reverse (m - k) (n - k) false).2.1) (pair HH zero old r.reverse (m - k) (n - k) false).2.2 w)
        generalize (pair HH zero old r.reverse (m - k) (n - k) false).1 = X at *
        generalize (pair HH zero old r.reverse (m - k) (n - k) false).2.1 = X2 at *
        generalize (pair HH zero old r.reverse (m - k) (n - k) false).2.2 = B at *
        have HX1 := Lib.hid hpl.1
        have HX2 := Lib.hid hpl.2
        have HL1 := Lib.hid (node_length x X)
        have HL2 := Lib.hid (node_length x X2)
        have HN1 : Hid (∀ W, TT W → Calls Tryd.prog 45 #[.agg (x.map bv).toArray, .agg (X.map bv).toArray] W (GivesD (HH.node x X) W)) := Lib.hid (fun W h => refNode_any _ _ HX.out HX1.out W h)
        have HN2 : Hid (∀ W, TT W → Calls Tryd.prog 45 #[.agg (x.map bv).toArray, .agg (X2.map bv).toArray] W (GivesD (HH.node x X2) W)) := Lib.hid (fun W h => refNode_any _ _ HX.out HX2.out W h)
        generalize HH.node x X = D1 at *
        generalize HH.node x X2 = D2 at *
        clear z9 z10 h3 h4 h5 z5 z7
        clear ih hl ht hR hln hrl hrx ho hxl hok h hpl
        unfold dv
        go_enter Tryd.func48, Tryd.ntmps48
        go_wp2_with (first
          | (refine load_d 37 rfl rfl _ rfl b (o + q * 16) rfl x HX.out (HRX.out _ Y.z) ?_)
          | (refine store_d (.tmp 11) (.tmp 37) rfl rfl (w.heap.size + 1 + 1) 0 rfl x rfl HX.out (pl_room Y (HS.out _ _) _).l.there ?_; refine Hash.gen_world (Pq := fun W => Pl w W old x) (G := fun W => wpList _ _ _ _ _ W) ((pl_room Y (HS.out _ _) _).put HX.out) ?_; clear Y; intro W2 Y)
          | (go_at_call 36; (with_reducible refine (HSP.out _).mono ?_); rintro e w3 ⟨rfl, hb⟩; replace Y := Y.on hb; clear hb)
          | (refine load_d 72 rfl rfl _ rfl w.heap.size 0 rfl old HO.out Y.p.o.range ?_)
          | (go_at_call 48; (with_reducible refine (HPA.out _ Y.p.z).mono ?_); rintro e w5 ⟨rfl, hb⟩; replace Y := Y.on hb; clear hb)
          | (refine store_p (.tmp 15) (.tmp 80) rfl rfl w5.heap.size rfl (u := X) (v := X2) (b := B) rfl HX1.out HX2.out (pc_room w5 _).there ?_; refine Hash.gen_world (Pq := fun W => Pc w W old x w5.heap.size X X2 B) (G := fun W => wpList _ _ _ _ _ W) (pc_new Y HX1.out HX2.out _) ?_; clear Y; intro W6 Y))
        have HB : Hid (∀ W, Pc w W old x w5.heap.size X X2 B → W.cell? ⟨w5.heap.size, 32, none⟩ = some (.bool B)) := Lib.hid (fun W h => h.q.third)
        clear z0 z6 z8
        refine QTail.region (C := fun W => Pc w W old x w5.heap.size X X2 B) 10 (by kernel_rfl) (by kernel_rfl) (Y.on (Hash.belowD _)) ?_
        refine QTail.loadC (by rfl) 29 (.tmp 11) rfl (w.heap.size + 1 + 1) 0 rfl (x.map bv) _ (fun W h => h.l.l.range) und_d rfl (info_d HX.out) ?_
        (refine wpQuiet_step (fun K hK => ?_); go_simp; (first | refine hK _ ?_ | refine ⟨_, fun _ _ => rfl, hK _ ?_⟩); clear hK K)
        refine QTail.loadC (by rfl) 29 (.tmp 82) rfl w5.heap.size 0 rfl (X.map bv) _ (fun W h => h.q.first) und_d rfl (info_d HX1.out) ?_
        (refine wpQuiet_step (fun K hK => ?_); go_simp; refine ⟨_, fun W hW => (HN1.out W (HTT.out.on hW.l.p.z)).mono fun e w' ⟨he, hb⟩ => ⟨he, hW.on hb⟩, hK _ ?_⟩; clear hK K)
        refine QTail.loadC (by rfl) 29 (.tmp 11) rfl (w.heap.size + 1 + 1) 0 rfl (x.map bv) _ (fun W h => h.l.l.range) und_d rfl (info_d HX.out) ?_
        (refine wpQuiet_step (fun K hK => ?_); go_simp; (first | refine hK _ ?_ | refine ⟨_, fun _ _ => rfl, hK _ ?_⟩); clear hK K)
        refine QTail.loadC (by rfl) 29 (.tmp 86) rfl w5.heap.size 16 rfl (X2.map bv) _ (fun W h => h.q.second) und_d rfl (info_d HX2.out) ?_
        (refine wpQuiet_step (fun K hK => ?_); go_simp; refine ⟨_, fun W hW => (HN2.out W (HTT.out.on hW.l.p.z)).mono fun e w' ⟨he, hb⟩ => ⟨he, hW.on hb⟩, hK _ ?_⟩; clear hK K)
        (refine wpQuiet_step (fun K hK => ?_); go_simp; (first | refine hK _ ?_ | refine ⟨_, fun _ _ => rfl, hK _ ?_⟩); clear hK K)
        (refine wpQuiet_step (fun K hK => ?_); go_simp; refine ⟨(.bool B), fun W hW => ?_, hK _ ?_⟩; (first | (rw [HB.out W hW]; exact ⟨rfl, rfl⟩) | (rw [HB.out W hW]; rfl)); clear hK K)
        refine wpQuiet_nil ?_
        clear Y
        intro w7 Y
        simp only [List.drop_succ_cons, List.drop_zero]
        refine build_p (.tmp 84) (.tmp 88) (.tmp 90) rfl rfl (x := D1) (y := D2) (b := B) rfl rfl rfl HL1.out HL2.out ?_
        refine store_p (.tmp 10) (.tmp 91) rfl rfl (w.heap.size + 1) rfl (u := D1) (v := D2) (b := B) rfl HL1.out HL2.out Y.l.p.r.there ?_
        go_wp2
        have HE := Y.l.p.fin HL1.out HL2.out B
        refine bodyPost_ret (v := pv D1 D2 B) ?_ rfl ⟨rfl, HE.2⟩
        simp [results, Tryd.results48, asAddr, Act.put]
        rw [HE.1]
end Mk
end Go.Proofs.YthpkeaafgabjiaaDoor

/- The reference of package merkle: VerifyPrefix. Conditions: the slice reads as a list of digests, the tables are laid. -/
namespace Go.Proofs.YthpkeaafgabjiaaDoor
open Go.RowKit
namespace Mk
open Wire (bv sv Lies)
open Hash (bcj)

/-- Two digests that came in, in blocks of their own. -/
structure Vb (w W : World) (x y : List UInt8) : Prop where
  a : Dg W w.heap.size x
  b : Dg W (w.heap.size + 1) y
  z : Below w.heap.size w W
theorem Vb.on {w W W' : World} {x y : List UInt8} (h : Vb w W x y) (hb : Below W.heap.size W W') : Vb w W' x y := ⟨h.a.on hb, h.b.on hb, bcj h.z hb⟩
theorem vb_new (w : World) {x y : List UInt8} (hx : x.length = 16) (hy : y.length = 16) (t t2 : TypeId) : Vb w ((w.alloc (.cells (x.map bv).toArray t)).alloc (.cells (y.map bv).toArray t2)) x y := by
  have h1 := dg_new w hx t
  have h2 := dg_new (w.alloc (.cells (x.map bv).toArray t)) hy t2
  have hs : (w.alloc (.cells (x.map bv).toArray t)).heap.size = w.heap.size + 1 := World.size_alloc _ _
  rw [hs] at h2
  exact ⟨h1.on (Wire.b1 _ _), h2, bcj (Wire.b1 _ _) (Wire.b1 _ _)⟩
structure Vc (w W : World) (x y : List UInt8) (g : Nat) (X Y : List UInt8) (B : Bool) : Prop where
  v : Vb w W x y
  q : Pr W g X Y B
theorem vc_new {w W : World} {x y X Y : List UInt8} {B : Bool} (h : Vb w W x y) (hX : X.length = 16) (hY : Y.length = 16) (t : TypeId) :
    Vc w ((W.alloc (.cells #[.int .u8 0, .int .u8 0, .int .u8 0, .int .u8 0, .int .u8 0, .int .u8 0, .int .u8 0, .int .u8 0, .int .u8 0, .int .u8 0, .int .u8 0, .int .u8 0, .int .u8 0, .int .u8 0, .int .u8 0, .int .u8 0, .int .u8 0, .int .u8 0, .int .u8 0, .int .u8 0, .int .u8 0, .int .u8 0, .int .u8 0, .int .u8 0, .int .u8 0, .int .u8 0, .int .u8 0, .int .u8 0, .int .u8 0, .int .u8 0, .int .u8 0, .int .u8 0, .bool false] t)).setCells W.heap.size 0 (cellsP X Y B)) x y W.heap.size X Y B :=
  ⟨h.on ((Wire.b1 W _).trans (Hash.below_cells (Nat.le_refl _) _ _ _)), (pc_room W t).put hX hY⟩

set_option maxRecDepth 100000 in
set_option maxHeartbeats 1000000 in
theorem refVerifyPrefix_no (old root : List UInt8) (ho : old.length = 16) (hr : root.length = 16) (m n : Int) (q c : Nat) (A : Option Addr) (w : World) (h : m < 1 ∨ n < m) :
    Calls Tryd.prog 21 #[dv old, dv root, .int .i64 m, .int .i64 n, .slice A q c] w (GivesT false w) := by
  have Y := vb_new w ho hr 29 29
  have h2 : m < 1 ∨ (¬ m < 1 ∧ n < m) := by omega
  clear h ho hr
  unfold dv
  rcases h2 with h | ⟨h, h3⟩
  all_goals
    go_enter Tryd.func21, Tryd.ntmps21
    go_wp2
    go_ret
    exact ⟨rfl, Y.z⟩

set_option maxRecDepth 100000 in
set_option maxHeartbeats 2000000 in
theorem refVerifyPrefix_any (old root : List UInt8) (ho : old.length = 16) (hr : root.length = 16) (p : List (List UInt8)) (m n q c : Nat) (A : Option Addr) (w : World) (hl : LiesD w w.heap.size A q c p) (ht : TT w) (h1 : 1 ≤ m) (hm : m ≤ n) (hn : n ≤ 9223372036854775807) :
    Calls Tryd.prog 21 #[dv old, dv root, .int .i64 (m : Int), .int .i64 (n : Int), .slice A q c] w
      (GivesT ((pair HH zero old p.reverse m n true).2.2 && (pair HH zero old p.reverse m n true).1 == old && (pair HH zero old p.reverse m n true).2.1 == root) w) := by
  have Y := vb_new w ho hr 29 29
  have HTT := Lib.hid ht
  have hpl := pair_len ho p.reverse m n true (fun d hd => hl.ok d (List.mem_reverse.1 hd))
  have HPA : Hid (∀ W, Below w.heap.size w W → Calls Tryd.prog 48 #[dv old, .int .i64 (m : Int), .int .i64 (n : Int), .bool true, .slice A q c] W
      (GivesX (pair HH zero old p.reverse m n true).1 (pair HH zero old p.reverse m n true).2.1 (pair HH zero old p.reverse m n true).2.2 W)) :=
    Lib.hid (fun W h => refPair_any q p m n c true A old W ((hl.below h).more h.size) (HTT.out.on h) h1 hm hn ho)
  generalize (pair HH zero old p.reverse m n true).1 = X at *
  generalize (pair HH zero old p.reverse m n true).2.1 = X2 at *
  generalize (pair HH zero old p.reverse m n true).2.2 = B at *
  have HX1 := Lib.hid hpl.1
  have HX2 := Lib.hid hpl.2
  have HO := Lib.hid ho
  have HR := Lib.hid hr
  have z0 : ¬ (m : Int) < 1 := by omega
  have z1 : ¬ (n : Int) < (m : Int) := by omega
  have E1 := Lib.hid (fun W => eql_d X old hpl.1 ho W)
  have E2 := Lib.hid (fun W => eql_d X2 root hpl.2 hr W)
  generalize (X == old) = B1 at *
  generalize (X2 == root) = B2 at *
  clear ht hl hpl ho hr h1 hm hn
  unfold dv
  cases B with
  | false =>
    go_enter Tryd.func21, Tryd.ntmps21
    go_wp2_with (first
      | (refine load_d 19 rfl rfl _ rfl w.heap.size 0 rfl old HO.out Y.a.range ?_)
      | (go_at_call 48; (with_reducible refine (HPA.out _ Y.z).mono ?_); rintro e w5 ⟨rfl, hb⟩; replace Y := Y.on hb; clear hb)
      | (refine store_p (.tmp 11) (.tmp 23) rfl rfl w5.heap.size rfl (u := X) (v := X2) (b := false) rfl HX1.out HX2.out (pc_room w5 _).there ?_; refine Hash.gen_world (Pq := fun W => Vc w W old root w5.heap.size X X2 false) (G := fun W => wpList _ _ _ _ _ W) (vc_new Y HX1.out HX2.out _) ?_; clear Y; intro W6 Y; have h32 := Y.q.third))
    go_ret
    exact ⟨rfl, Y.v.z⟩
  | true =>
    cases B1 with
    | false =>
      go_enter Tryd.func21, Tryd.ntmps21
      go_wp2_with (first
        | (refine load_d 19 rfl rfl _ rfl w.heap.size 0 rfl old HO.out Y.a.range ?_)
        | (go_at_call 48; (with_reducible refine (HPA.out _ Y.z).mono ?_); rintro e w5 ⟨rfl, hb⟩; replace Y := Y.on hb; clear hb)
        | (refine store_p (.tmp 11) (.tmp 23) rfl rfl w5.heap.size rfl (u := X) (v := X2) (b := true) rfl HX1.out HX2.out (pc_room w5 _).there ?_; refine Hash.gen_world (Pq := fun W => Vc w W old root w5.heap.size X X2 true) (G := fun W => wpList _ _ _ _ _ W) (vc_new Y HX1.out HX2.out _) ?_; clear Y; intro W6 Y; have h32 := Y.q.third; have e1 := E1.out)
        | (refine QTail.loadG (by rfl) 29 (.tmp 27) rfl w5.heap.size 0 rfl (X.map bv) _ Y.q.first und_d rfl (info_d HX1.out) ?_)
        | (refine QTail.loadG (by rfl) 29 (.tmp 5) rfl w.heap.size 0 rfl (old.map bv) _ Y.v.a.range und_d rfl (info_d HO.out) ?_))
      go_ret
      exact ⟨rfl, Y.v.z⟩
    | true =>
      go_enter Tryd.func21, Tryd.ntmps21
      go_wp2_with (first
        | (refine load_d 19 rfl rfl _ rfl w.heap.size 0 rfl old HO.out Y.a.range ?_)
        | (go_at_call 48; (with_reducible refine (HPA.out _ Y.z).mono ?_); rintro e w5 ⟨rfl, hb⟩; replace Y := Y.on hb; clear hb)
        | (refine store_p (.tmp 11) (.tmp 23) rfl rfl w5.heap.size rfl (u := X) (v := X2) (b := true) rfl HX1.out HX2.out (pc_room w5 _).there ?_; refine Hash.gen_world (Pq := fun W => Vc w W old root w5.heap.size X X2 true) (G := fun W => wpList _ _ _ _ _ W) (vc_new Y HX1.out HX2.out _) ?_; clear Y; intro W6 Y; have h32 := Y.q.third; have e1 := E1.out; have e2 := E2.out)
        | (refine QTail.loadG (by rfl) 29 (.tmp 27) rfl w5.heap.size 0 rfl (X.map bv) _ Y.q.first und_d rfl (info_d HX1.out) ?_)
        | (refine QTail.loadG (by rfl) 29 (.tmp 5) rfl w.heap.size 0 rfl (old.map bv) _ Y.v.a.range und_d rfl (info_d HO.out) ?_)
        | (refine QTail.loadG (by rfl) 29 (.tmp 33) rfl w5.heap.size 16 rfl (X2.map bv) _ Y.q.second und_d rfl (info_d HX2.out) ?_)
        | (refine QTail.loadG (by rfl) 29 (.tmp 6) rfl (w.heap.size + 1) 0 rfl (root.map bv) _ Y.v.b.range und_d rfl (info_d HR.out) ?_))
      go_ret
      exact ⟨by simp, Y.v.z⟩
end Mk
end Go.Proofs.YthpkeaafgabjiaaDoor

