/- MFoB; MFoO; MPVe; MFoI: what each of these parts proves stands ahead of it. -/
import Derived.Test.YthpkeaafgabjiaaDoorM23
import Derived.Test.YthpkeaafgabjiaaDoorM20
import Derived.Test.YthpkeaafgabjiaaDoorM15
import Derived.Test.YthpkeaafgabjiaaDoorM22
/- The package merkle: what the steps of a proof are passed to, by what it may change. No condition. -/
namespace Go.Proofs.YthpkeaafgabjiaaDoor
open Go.RowKit
namespace Mk
open Wire (bv sv Lies)
open Hash (Arr bcj ofDig)

/-- The world goes on; what is free stays as it was, and free. -/
structure Kp (Fr : World → Nat → Prop) (W W' : World) : Prop where
  os : W'.os = W.os
  tape : W'.tape = W.tape
  output : W'.output = W.output
  size : W.heap.size ≤ W'.heap.size
  block : ∀ k, Fr W k → W'.heap[k]? = W.heap[k]?
  free : ∀ k, Fr W k → Fr W' k
theorem Kp.refl (Fr : World → Nat → Prop) (W : World) : Kp Fr W W := ⟨rfl, rfl, rfl, Nat.le_refl _, fun _ _ => rfl, fun _ h => h⟩
theorem Kp.trans {Fr : World → Nat → Prop} {W1 W2 W3 : World} (h1 : Kp Fr W1 W2) (h2 : Kp Fr W2 W3) : Kp Fr W1 W3 :=
  ⟨h2.os.trans h1.os, h2.tape.trans h1.tape, h2.output.trans h1.output, Nat.le_trans h1.size h2.size, fun k h => (h2.block k (h1.free k h)).trans (h1.block k h), fun k h => h2.free k (h1.free k h)⟩
/-- A block that is neither of bytes nor of texts. -/
def Good (o : Obj) : Prop := ∀ cs e f, o = .cells cs e f → e ≠ 38 ∧ e ≠ 5
theorem good_dig (cs : Array Value) (f : Nat × Nat) : Good (.cells cs 29 f) := fun _ _ _ h => by cases h; exact ⟨by decide, by decide⟩
theorem good_part (cs : Array Value) (f : Nat × Nat) : Good (.cells cs 69 f) := fun _ _ _ h => by cases h; exact ⟨by decide, by decide⟩
theorem setCell_obj {W : World} {g i : Nat} {v : Value} {cs : Array Value} {e : TypeId} {f : Nat × Nat} (h : W.heap[g]? = some (.cells cs e f)) : ∃ cs', (W.setCell ⟨g, i, none⟩ v).heap[g]? = some (.cells cs' e f) := by
  simp [World.setCell, Array.getElem?_modify, h]
theorem setCells_obj {g : Nat} {e : TypeId} {f : Nat × Nat} : ∀ (vs : List Value) (o : Nat) (W : World) (cs : Array Value), W.heap[g]? = some (.cells cs e f) → ∃ cs', (W.setCells g o vs).heap[g]? = some (.cells cs' e f)
  | [], _, _, cs, h => ⟨cs, h⟩
  | v :: r, o, W, cs, h => by
    obtain ⟨cs2, h2⟩ := setCell_obj (i := o) (v := v) h
    exact setCells_obj r (o + 1) _ cs2 h2
theorem obj_new (W : World) (E : List UInt8) : ∃ cs, ((W.alloc (.cells #[.int .u8 0, .int .u8 0, .int .u8 0, .int .u8 0, .int .u8 0, .int .u8 0, .int .u8 0, .int .u8 0, .int .u8 0, .int .u8 0, .int .u8 0, .int .u8 0, .int .u8 0, .int .u8 0, .int .u8 0, .int .u8 0] 29)).setCells W.heap.size 0 (E.map bv)).heap[W.heap.size]? = some (.cells cs 29 (0, 0)) := setCells_obj _ _ _ _ (heap_alloc_new W _)
/-- What a step keeps of the inputs so far (I), and what blocks it leaves alone (Fr). -/
structure Steps (base : Nat) (I : List (List UInt8) → World → Prop) (Fr : World → Nat → Prop) : Prop where
  lt : ∀ W k, Fr W k → k < W.heap.size
  on : ∀ L W W', I L W → Below W.heap.size W W' → I L W'
  fon : ∀ L W W' k, I L W → Below W.heap.size W W' → Fr W k → Fr W' k
  fnew : ∀ L W W' k o, I L W → Below W.heap.size W W' → W.heap.size ≤ k → W'.heap[k]? = some o → Good o → Fr W' k
  put : ∀ L W g vs, I L W → Fr W g → base ≤ g → I L (W.setCells g 0 vs)
  fput : ∀ L W g vs k, I L W → Fr W g → base ≤ g → Fr W k → Fr (W.setCells g 0 vs) k
section
variable {bs : Nat} {I : List (List UInt8) → World → Prop} {Fr : World → Nat → Prop} {W W' : World} {L : List (List UInt8)}
theorem Steps.kp (S : Steps bs I Fr) (hi : I L W) (hb : Below W.heap.size W W') : Kp Fr W W' :=
  ⟨hb.os, hb.tape, hb.output, hb.size, fun k hk => hb.block k (S.lt W k hk), fun k hk => S.fon L W W' k hi hb hk⟩
theorem Dg.kp {g : Nat} {d : List UInt8} (h : Dg W g d) (hk : Kp Fr W W') (hf : Fr W g) : Dg W' g d :=
  ⟨h.arr.keep (fun j => World.cell?_of_block (a := ⟨g, j, none⟩) (hk.block g hf)) (fun j => World.frozen?_of_block (a := ⟨g, j, none⟩) (hk.block g hf))⟩
/-- The loop's memory: the result's block, and that of the value so far. -/
structure Vf (Fr : World → Nat → Prop) (I : List (List UInt8) → World → Prop) (w w4 W : World) (L : List (List UInt8)) (gx : Nat) (R : List UInt8) : Prop where
  r : Dg W (w.heap.size + 1) zero
  fr : Fr W (w.heap.size + 1)
  x : Dg W gx R
  fx : Fr W gx
  ne : gx ≠ w.heap.size + 1
  big : w4.heap.size ≤ gx
  i : I L W
  k : Kp Fr w W
  k4 : Kp Fr w4 W
  z4 : w.heap.size + 1 + 1 ≤ w4.heap.size
/-- And the element of a round. -/
structure Vg (Fr : World → Nat → Prop) (I : List (List UInt8) → World → Prop) (w w4 W : World) (L : List (List UInt8)) (gx : Nat) (R : List UInt8) (ge : Nat) (E : List UInt8) : Prop where
  v : Vf Fr I w w4 W L gx R
  e : Dg W ge E
  fe : Fr W ge
  nx : ge ≠ gx
variable {w w4 : World} {gx ge : Nat} {R E D : List UInt8}
theorem Vf.kp (h : Vf Fr I w w4 W L gx R) {L' : List (List UInt8)} (hk : Kp Fr W W') (hi : I L' W') : Vf Fr I w w4 W' L' gx R :=
  ⟨h.r.kp hk h.fr, hk.free _ h.fr, h.x.kp hk h.fx, hk.free _ h.fx, h.ne, h.big, hi, h.k.trans hk, h.k4.trans hk, h.z4⟩
theorem Vf.on (S : Steps bs I Fr) (h : Vf Fr I w w4 W L gx R) (hb : Below W.heap.size W W') : Vf Fr I w w4 W' L gx R := h.kp (S.kp h.i hb) (S.on _ _ _ h.i hb)
theorem kp_put (S : Steps bs I Fr) {w0 : World} {g : Nat} (vs : List Value) (hi : I L W) (hf : Fr W g) (hb : bs ≤ g) (h0 : w0.heap.size ≤ g) (hk : Kp Fr w0 W) : Kp Fr w0 (W.setCells g 0 vs) :=
  ⟨(Hash.below_cells (Nat.le_refl g) vs 0 W).os.trans hk.os, (Hash.below_cells (Nat.le_refl g) vs 0 W).tape.trans hk.tape, (Hash.below_cells (Nat.le_refl g) vs 0 W).output.trans hk.output, Nat.le_trans hk.size (Hash.below_cells (Nat.le_refl g) vs 0 W).size,
    fun k h => ((Hash.below_cells (Nat.le_refl g) vs 0 W).block k (Nat.lt_of_lt_of_le (S.lt _ _ h) h0)).trans (hk.block k h), fun k h => S.fput L W g vs k hi hf hb (hk.free k h)⟩
theorem Vf.putx (S : Steps bs I Fr) (h : Vf Fr I w w4 W L gx R) (hb : bs ≤ w.heap.size) (hd : D.length = 16) : Vf Fr I w w4 (W.setCells gx 0 (D.map bv)) L gx D := by
  have h1 := h.big
  have h2 := h.z4
  exact ⟨h.r.aside (Ne.symm h.ne) _, S.fput L W gx _ _ h.i h.fx (by omega) h.fr, h.x.put hd, S.fput L W gx _ _ h.i h.fx (by omega) h.fx, h.ne, h1, S.put L W gx _ h.i h.fx (by omega), kp_put S _ h.i h.fx (by omega) (by omega) h.k, kp_put S _ h.i h.fx (by omega) h1 h.k4, h2⟩
theorem Vg.kp (h : Vg Fr I w w4 W L gx R ge E) {L' : List (List UInt8)} (hk : Kp Fr W W') (hi : I L' W') : Vg Fr I w w4 W' L' gx R ge E := ⟨h.v.kp hk hi, h.e.kp hk h.fe, hk.free _ h.fe, h.nx⟩
theorem Vg.on (S : Steps bs I Fr) (h : Vg Fr I w w4 W L gx R ge E) (hb : Below W.heap.size W W') : Vg Fr I w w4 W' L gx R ge E := h.kp (S.kp h.v.i hb) (S.on _ _ _ h.v.i hb)
theorem Vg.putx (S : Steps bs I Fr) (h : Vg Fr I w w4 W L gx R ge E) (hb : bs ≤ w.heap.size) (hd : D.length = 16) : Vg Fr I w w4 (W.setCells gx 0 (D.map bv)) L gx D ge E := by
  have h1 := h.v.big
  have h2 := h.v.z4
  exact ⟨h.v.putx S hb hd, h.e.aside h.nx _, S.fput L W gx _ _ h.v.i h.v.fx (by omega) h.fe, h.nx⟩
theorem below_new (W : World) (E : List UInt8) (t : TypeId) : Below W.heap.size W ((W.alloc (.cells #[.int .u8 0, .int .u8 0, .int .u8 0, .int .u8 0, .int .u8 0, .int .u8 0, .int .u8 0, .int .u8 0, .int .u8 0, .int .u8 0, .int .u8 0, .int .u8 0, .int .u8 0, .int .u8 0, .int .u8 0, .int .u8 0] t)).setCells W.heap.size 0 (E.map bv)) := (Wire.b1 _ _).trans (Hash.below_cells (Nat.le_refl _) _ _ _)
theorem vg_new (S : Steps bs I Fr) (h : Vf Fr I w w4 W L gx R) (hE : E.length = 16) : Vg Fr I w w4 ((W.alloc (.cells #[.int .u8 0, .int .u8 0, .int .u8 0, .int .u8 0, .int .u8 0, .int .u8 0, .int .u8 0, .int .u8 0, .int .u8 0, .int .u8 0, .int .u8 0, .int .u8 0, .int .u8 0, .int .u8 0, .int .u8 0, .int .u8 0] 29)).setCells W.heap.size 0 (E.map bv)) L gx R W.heap.size E := by
  obtain ⟨cs, ho⟩ := obj_new W E
  exact ⟨h.on S (below_new W E _), (dg_zero W _).put hE, S.fnew L W _ _ _ h.i (below_new W E _) (Nat.le_refl _) ho (good_dig _ _), by have := h.x.lt; omega⟩
/-- The value's block is new: the first input has been passed. -/
theorem vf_new (S : Steps bs I Fr) (hr : Dg W (w.heap.size + 1) zero) (hfr : Fr W (w.heap.size + 1)) (hi : I L W) (hk : Kp Fr w W) (hk4 : Kp Fr w4 W) (hz : w.heap.size + 1 + 1 ≤ w4.heap.size) (hE : E.length = 16) :
    Vf Fr I w w4 ((W.alloc (.cells #[.int .u8 0, .int .u8 0, .int .u8 0, .int .u8 0, .int .u8 0, .int .u8 0, .int .u8 0, .int .u8 0, .int .u8 0, .int .u8 0, .int .u8 0, .int .u8 0, .int .u8 0, .int .u8 0, .int .u8 0, .int .u8 0] 29)).setCells W.heap.size 0 (E.map bv)) L W.heap.size E := by
  have hb := below_new W E 29
  have hs := hr.lt
  obtain ⟨cs, ho⟩ := obj_new W E
  exact ⟨hr.on hb, S.fon L W _ _ hi hb hfr, (dg_zero W _).put hE, S.fnew L W _ _ _ hi hb (Nat.le_refl _) ho (good_dig _ _), by omega, hk4.size, S.on L W _ hi hb, hk.trans (S.kp hi hb), hk4.trans (S.kp hi hb), hz⟩
/-- What follows: the root that a proof leads to and whether it has as many elements as it must. -/
def GivesF (Fr : World → Nat → Prop) (I : List (List UInt8) → World → Prop) (o : Option (List (List UInt8))) (w : World) (e : Ending) (w' : World) : Prop :=
  ∃ R : List UInt8, R.length = 16 ∧ (∀ t l, o = some (t :: l) → R = HH.sh t) ∧ e = .returned (.tuple #[dv R, .bool o.isSome]) ∧ I (o.getD []) w' ∧ Kp Fr w w'
/-- What a step yields. -/
def GivesN (Fr : World → Nat → Prop) (I : List (List UInt8) → World → Prop) (x : List UInt8) (L : List (List UInt8)) (w : World) (e : Ending) (w' : World) : Prop :=
  e = .returned (dv (HH.sh x)) ∧ I (x :: L) w' ∧ Kp Fr w w'
end
theorem fol_start {bs : Nat} {I : List (List UInt8) → World → Prop} {Fr : World → Nat → Prop} (S : Steps bs I Fr) {w w4 : World} {b4 m4 c4 : Nat} {A4 : Option Addr} {ps : List (Nat × Nat)} (hi0 : I [] w) (hz : Below w.heap.size w w4) (R0 : ∃ cs, w4.heap[w.heap.size + 1]? = some (.cells cs 29 (0, 0))) (ho : OwnP w4 b4 (.slice A4 m4 c4) m4 ps) (hb4 : w.heap.size ≤ b4) :
    I [] w4 ∧ Kp Fr w w4 ∧ Fr w4 (w.heap.size + 1) ∧ ∀ b o, A4 = some ⟨b, o, none⟩ → Fr w4 b :=
  ⟨S.on [] w w4 hi0 hz, S.kp hi0 hz, by
    obtain ⟨cs, h⟩ := R0
    exact S.fnew [] w w4 _ _ hi0 hz (by omega) h (good_dig _ _), fun b o e => by
    subst e
    have h := ho.own.lt b rfl
    rcases ho.own.2 with ⟨h0, _⟩ | ⟨g, cap, cur, he, _, hg, _⟩
    · cases h0
    · simp only [Value.slice.injEq, Option.some.injEq, Addr.mk.injEq, and_true, true_and] at he
      obtain ⟨⟨rfl, _⟩, _⟩ := he
      exact S.fnew [] w w4 _ _ hi0 hz (by omega) hg (good_part _ _)⟩
theorem range_kp {Fr : World → Nat → Prop} {W W' : World} {b o : Nat} {cs : List Value} (h : W.rangeAt b o cs) (hk : Kp Fr W W') (hf : Fr W b) : W'.rangeAt b o cs := fun i u hu => (World.cell?_of_block (hk.block b hf)).trans (h i u hu)
theorem inpI_in {n i : Nat} {d : List UInt8} {p : List (List UInt8)} (hi : i < n) : inpI (n : Int) (i : Int) d p = if p.length = (sibs 0 n i).length then some (fol HH i (sibs 0 n i).reverse p.reverse d) else none := by
  have h := inputs_sibs HH n 0 n i p.reverse d (by omega) (by omega) hi
  rw [Nat.sub_zero, Nat.sub_zero, List.length_reverse] at h
  unfold inpI
  rw [if_pos (by omega), Int.toNat_natCast, Int.toNat_natCast, h]
theorem fol_next {i k : Nat} {ps : List (Nat × Nat)} {p : List (List UInt8)} {a : Nat × Nat} {e d t : List UInt8} {l : List (List UInt8)} (ha : ps[k]? = some a) (he : p[k]? = some e) (h : fol HH i (ps.take k).reverse (p.take k).reverse d = t :: l) :
    fol HH i (ps.take (k + 1)).reverse (p.take (k + 1)).reverse d = (if a.2 ≤ i then HH.ni e (HH.sh t) else HH.ni (HH.sh t) e) :: t :: l := by
  rw [List.take_add_one, List.take_add_one, ha, he]
  simp only [Option.toList_some, List.reverse_append, List.reverse_singleton, List.singleton_append]
  exact fol_step HH i h
end Mk
end Go.Proofs.YthpkeaafgabjiaaDoor

/- The package merkle: follow, where each step is hashed. Conditions: the slice reads as a list of digests, the tables are laid. -/
namespace Go.Proofs.YthpkeaafgabjiaaDoor
open Go.RowKit
namespace Mk
open Wire (bv sv Lies)
open Hash (Arr bcj ofDig)

set_option maxRecDepth 100000 in
set_option maxHeartbeats 8000000 in
theorem followO_any {bs : Nat} {I : List (List UInt8) → World → Prop} {Fr : World → Nat → Prop} (S : Steps bs I Fr)  (n i : Int) (d : List UInt8) (hd : d.length = 16) (q c : Nat) (A : Option Addr) (p : List (List UInt8)) (w : World) (hn : n ≤ 9223372036854775807) (hl : LiesD w w.heap.size A q c p)
    (hA : ∀ b o, A = some ⟨b, o, none⟩ → 0 < q → b < w.heap.size → Fr w b) (hi0 : I [] w) (hbs : bs ≤ w.heap.size)
    (s1 : ∀ (x : List UInt8) (L : List (List UInt8)) (W : World), x.length = 16 → L.length ≤ 100 → I L W → Calls Tryd.prog 39 (#[.int .i64 1, .slice (some ⟨W.heap.size, 0, none⟩) 1 1]) (W.alloc (.cells #[.string ⟨x.toArray⟩] 9)) (GivesN Fr I (HH.li x) L W))
    (s2 : ∀ (x y : List UInt8) (L : List (List UInt8)) (W : World), x.length = 16 → y.length = 16 → L.length ≤ 100 → I L W → Calls Tryd.prog 39 (#[.int .i64 2, .slice (some ⟨W.heap.size, 0, none⟩) 2 2]) (W.alloc (.cells #[.string ⟨x.toArray⟩, .string ⟨y.toArray⟩] 9)) (GivesN Fr I (HH.ni x y) L W)) :
    Calls Tryd.prog 46 #[.int .i64 n, .int .i64 i, dv d, .slice A q c, .func (.func 39) #[] #[]] w (GivesF Fr I (inpI n i d p) w) := by
  have P0 := dg_new w hd 29
  have z1 := Wire.b1 w (.cells (d.map bv).toArray 29)
  have R0 := dg_zero (w.alloc (.cells (d.map bv).toArray 29)) 29
  have z2 := Wire.b1 (w.alloc (.cells (d.map bv).toArray 29)) (.cells #[.int .u8 0, .int .u8 0, .int .u8 0, .int .u8 0, .int .u8 0, .int .u8 0, .int .u8 0, .int .u8 0, .int .u8 0, .int .u8 0, .int .u8 0, .int .u8 0, .int .u8 0, .int .u8 0, .int .u8 0, .int .u8 0] 29)
  rw [Wire.size_alloc] at R0
  have P1 := P0.on z2
  have HO0 : Hid (∀ W, Below ((w.alloc (.cells (d.map bv).toArray 29)).alloc (.cells #[.int .u8 0, .int .u8 0, .int .u8 0, .int .u8 0, .int .u8 0, .int .u8 0, .int .u8 0, .int .u8 0, .int .u8 0, .int .u8 0, .int .u8 0, .int .u8 0, .int .u8 0, .int .u8 0, .int .u8 0, .int .u8 0] 29)).heap.size ((w.alloc (.cells (d.map bv).toArray 29)).alloc (.cells #[.int .u8 0, .int .u8 0, .int .u8 0, .int .u8 0, .int .u8 0, .int .u8 0, .int .u8 0, .int .u8 0, .int .u8 0, .int .u8 0, .int .u8 0, .int .u8 0, .int .u8 0, .int .u8 0, .int .u8 0, .int .u8 0] 29)) W → ∃ cs, W.heap[w.heap.size + 1]? = some (.cells cs 29 (0, 0))) := Lib.hid (fun W hb => ⟨#[.int .u8 0, .int .u8 0, .int .u8 0, .int .u8 0, .int .u8 0, .int .u8 0, .int .u8 0, .int .u8 0, .int .u8 0, .int .u8 0, .int .u8 0, .int .u8 0, .int .u8 0, .int .u8 0, .int .u8 0, .int .u8 0], (hb.block _ (by rw [World.size_alloc, World.size_alloc]; omega)).trans (by
    have h := heap_alloc_new (w.alloc (.cells (d.map bv).toArray 29)) (.cells #[.int .u8 0, .int .u8 0, .int .u8 0, .int .u8 0, .int .u8 0, .int .u8 0, .int .u8 0, .int .u8 0, .int .u8 0, .int .u8 0, .int .u8 0, .int .u8 0, .int .u8 0, .int .u8 0, .int .u8 0, .int .u8 0] 29)
    rw [Wire.size_alloc] at h
    exact h)⟩)
  have Z := bcj z1 z2
  have HD := Lib.hid hd
  have HZ : Hid (∀ W, Below w.heap.size w W → Dg W (w.heap.size + 1) zero → (loadVar 29 ⟨w.heap.size + 1, 0, none⟩).run Tryd.prog (W.setCells (w.heap.size + 1) 0 (zero.map bv)) = .ok (dv zero) (W.setCells (w.heap.size + 1) 0 (zero.map bv)) ∧ I [] (W.setCells (w.heap.size + 1) 0 (zero.map bv)) ∧ Kp Fr w (W.setCells (w.heap.size + 1) 0 (zero.map bv))) := Lib.hid (fun W hb hr => by
    have he := dg_end hr zero_length hb (by omega)
    exact ⟨he.1, S.on [] w _ hi0 he.2, S.kp hi0 he.2⟩)
  by_cases hb : i < 0 ∨ n ≤ i
  · have ho : inpI n i d p = none := by unfold inpI; rw [if_neg (by omega)]
    rw [ho]
    have h2 : i < 0 ∨ (¬ i < 0 ∧ n ≤ i) := by omega
    clear hb ho hl hA hi0 s1 s2 hd P0 z1 z2 P1
    unfold dv at *
    rcases h2 with h | ⟨h, h3⟩
    all_goals
      go_enter Tryd.func46, Tryd.ntmps46
      go_wp2_with (refine store_d (.tmp 10) (.tmp 23) rfl rfl (w.heap.size + 1) 0 rfl zero rfl zero_length R0.there ?_)
      have HE := HZ.out _ Z R0
      refine bodyPost_ret (v := .tuple #[dv zero, .bool false]) ?_ rfl ⟨zero, zero_length, (fun t l h => by cases h), rfl, HE.2.1, HE.2.2⟩
      simp [results, Tryd.results46, asAddr]
      rw [HE.1]
      rfl
  obtain ⟨N, rfl⟩ : ∃ N : Nat, n = (N : Int) := ⟨n.toNat, by omega⟩
  obtain ⟨J, rfl⟩ : ∃ J : Nat, i = (J : Int) := ⟨i.toNat, by omega⟩
  have hJ : J < N := by omega
  rw [inpI_in hJ]
  have hpl := hl.len
  have hmost : c ≤ 9223372036854775807 := by have := hl.lies.most; unfold maxLen at this; omega
  have hle := hl.lies.le
  have HS : Hid (∀ W, Calls Tryd.prog 35 #[.agg #[.int .i64 0, .int .i64 (N : Int)], .int .i64 (J : Int)] W (GivesS (sibs 0 N J) W)) := Lib.hid (fun W => siblings_any N 0 N J W (by omega) (by omega) (by omega) hJ)
  have hgl := sibs_length 63 0 N J (by have : (2 : Nat) ^ 63 = 9223372036854775808 := by decide
                                       omega)
  generalize sibs 0 N J = ps at *
  have x0 : ¬ (J : Int) < 0 := by omega
  have x1 : ¬ (N : Int) ≤ (J : Int) := by omega
  rw [hpl]
  by_cases hq : q = ps.length
  · rw [if_pos hq]
    have HQ := Lib.hid hq
    have HPL := Lib.hid hpl
    have HOK := Lib.hid hl.ok
    have HFO : Hid (∀ k, ∃ t l, fol HH J (ps.take k).reverse (p.take k).reverse d = t :: l) := Lib.hid (fun k => fol_cons HH J _ _ d)
    have hq64 : q ≤ 63 := by omega
    have hq2 : ((q : Nat) : Int) = (ps.length : Int) := by omega
    have HI0 := Lib.hid hi0
    have HSS := Lib.hid S
    have HS1 := Lib.hid s1
    have HS2 := Lib.hid s2
    have HBS := Lib.hid hbs
    clear hb hn hJ hpl hgl hq hi0 s1 s2 hd P0 z1 z2 hbs
    unfold dv
    go_enter Tryd.func46, Tryd.ntmps46
    go_wp2_with (first
      | (go_at_call 35; (with_reducible refine (HS.out _).mono ?_); rintro e w4 ⟨v4, m4, rfl, ho, hb⟩; have hm4 := ho.len; obtain ⟨A4, c4, rfl, hp4⟩ := ho.form; have hm5 : m4 = q := by omega
         subst hm5; have HF := Lib.hid (show w.heap.size + 1 + 1 ≤ w4.heap.size by have := hb.size; rw [Wire.size_alloc, Wire.size_alloc] at this; exact this); have HP4 := Lib.hid hp4; replace P1 := P1.on hb; replace R0 := R0.on hb; have HR0 := Lib.hid R0; have HST := Lib.hid (fol_start HSS.out HI0.out (bcj Z hb) (HO0.out _ hb) ho Z.size); clear Z R0 hb ho hp4; have hcv := convD P1)
      | (go_at_call 39; (with_reducible refine (HS1.out d [] _ HD.out (Nat.zero_le _) HST.out.1).mono ?_); rintro e w5 ⟨rfl, hi5, hk5⟩; unfold dv; have HVF := Lib.hid (vf_new HSS.out (HR0.out.kp hk5 HST.out.2.2.1) (hk5.free _ HST.out.2.2.1) hi5 (HST.out.2.1.trans hk5) hk5 HF.out (sh_length (HH.li d))); clear hi5 hk5 hcv P1)
      | (refine store_d (.tmp 13) (.tmp 38) rfl rfl w5.heap.size 0 rfl (HH.sh (HH.li d)) rfl (sh_length _) (dg_zero w5 _).there ?_; refine Hash.gen_world (Pq := fun W => Vf Fr I w w4 W [HH.li d] w5.heap.size (HH.sh (HH.li d))) (G := fun W => wpList _ _ _ _ _ W) HVF.out ?_; clear HVF; intro w6 Y))
    revert Y
    generalize w5.heap.size = gx
    intro Y
    have HRE : Hid (∀ W k e, Kp Fr w W → p[k]? = some e → ∃ b o, A = some ⟨b, o, none⟩ ∧ W.rangeAt b (o + k * 16) (e.map bv)) := Lib.hid (fun W k e hk he => by
      obtain ⟨b, o, e1, hb, hr⟩ := hl.row he
      exact ⟨b, o, e1, range_kp hr hk (hA b o e1 (by have h1 := (List.getElem?_eq_some_iff.1 he).1; rw [HPL.out] at h1; omega) hb)⟩)
    have HRP : Hid (∀ W k a, Kp Fr w4 W → ps[k]? = some a → ∃ b o, A4 = some ⟨b, o, none⟩ ∧ W.rangeAt b (o + k * 2) (ptc a.1 a.2)) := Lib.hid (fun W k a hk ha => by
      obtain ⟨b, o, e1, hb, hr⟩ := parts_row HP4.out ha
      exact ⟨b, o, e1, range_kp hr hk (HST.out.2.2.2 b o e1)⟩)
    clear hl hA S
    go_loopw [41] (fun kv wr => ∃ (k : Nat) (t : List UInt8) (L : List (List UInt8)), k ≤ m4 ∧ kv = .int .i64 (k : Int) ∧ L.length = k ∧ fol HH J (ps.take k).reverse (p.take k).reverse d = t :: L ∧ Vf Fr I w w4 wr (t :: L) gx (HH.sh t)) (fun kv _ => (m4 - intOf kv).toNat)
    case atStart => exact ⟨0, HH.li d, [], by omega, rfl, rfl, by rw [List.take_zero, List.take_zero, List.reverse_nil, List.reverse_nil]; exact fol_nil HH J d, Y⟩
    case round =>
      obtain ⟨k, t, L, hk, rfl, hLk, hfo, Y0⟩ := hrel
      have HLK := Lib.hid hLk
      have HTB : Hid (k < m4 → (t :: L).length ≤ 100) := Lib.hid (fun h => by rw [List.length_cons]; omega)
      clear hLk
      clear Y
      have Y := Y0
      clear Y0
      have HTL := Lib.hid (sh_length t)
      by_cases hkn : k < m4
      · obtain ⟨E, hE⟩ : ∃ e, p[k]? = some e := ⟨_, List.getElem?_eq_getElem (by rw [HPL.out]; exact hkn)⟩
        obtain ⟨⟨lo, hi⟩, hpa⟩ : ∃ a, ps[k]? = some a := ⟨_, List.getElem?_eq_getElem (by rw [← HQ.out]; exact hkn)⟩
        have hEl := HOK.out E (List.mem_of_getElem? hE)
        have HEL := Lib.hid hEl
        obtain ⟨b, o, rfl, hr1⟩ := HRE.out wr k E Y.k hE
        obtain ⟨b4, o4, rfl, -⟩ := HRP.out wr k _ Y.k4 hpa
        have HR4 : Hid (∀ W, Kp Fr w4 W → W.cell? ⟨b4, o4 + k * 2 + 1, none⟩ = some (.int .i64 (hi : Int))) := Lib.hid (fun W hz => by
          obtain ⟨b', o', e', h'⟩ := HRP.out W k _ hz hpa
          cases e'
          exact h' 1 _ rfl)
        have HNX := Lib.hid (fol_next hpa hE hfo)
        have y0 : (0 : Int) ≤ (k : Int) := by omega
        have y1 : (k : Int) < (m4 : Int) := by omega
        have c7 : (HH.sh t).length = 16 := HTL.out
        obtain ⟨R, hR⟩ : ∃ R, R = HH.sh t := ⟨_, rfl⟩
        rw [← hR] at Y c7
        have HRR := Lib.hid hR
        have HRL := Lib.hid c7
        clear hE hpa hEl HRE HRP hfo hR c7
        by_cases h1 : hi ≤ J
        · have w1 : (hi : Int) ≤ (J : Int) := by omega
          have HF1 : Hid (fol HH J (ps.take (k + 1)).reverse (p.take (k + 1)).reverse d = HH.ni E R :: t :: L) := Lib.hid (by rw [HNX.out, if_pos h1, HRR.out])
          go_wp2_with (first
            | (refine load_d 45 rfl rfl (.tmp 44) rfl b (o + k * 16) rfl E HEL.out hr1 ?_)
            | (refine store_d (.tmp 15) (.tmp 45) rfl rfl wr.heap.size 0 rfl E rfl HEL.out (dg_zero wr _).there ?_; refine Hash.gen_world (Pq := fun W => Vg Fr I w w4 W (t :: L) gx R wr.heap.size E) (G := fun W => wpList _ _ _ _ _ W) (vg_new HSS.out Y HEL.out) ?_; clear Y hr1; intro w7 Y; have c8 := HR4.out _ Y.v.k4))
          clear c8
          refine QTail.moved (C := fun W => Vg Fr I w w4 W (t :: L) gx R wr.heap.size E) 5 (.tmp 4) rfl rfl (by kernel_rfl) (by kernel_rfl) (Y.on HSS.out (Hash.belowD _)) (fun _ _ _ _ h => h) ?_
          have CA : Hid (∀ W, Vg Fr I w w4 W (t :: L) gx R wr.heap.size E → (convert 38 9 (.slice (some ⟨wr.heap.size, 0, none⟩) 16 16)).run Tryd.prog W = .ok (.string ⟨E.toArray⟩) W) := Lib.hid (fun W h => convD h.e)
          have CB : Hid (∀ W, Vg Fr I w w4 W (t :: L) gx R wr.heap.size E → (convert 38 9 (.slice (some ⟨gx, 0, none⟩) 16 16)).run Tryd.prog W = .ok (.string ⟨R.toArray⟩) W) := Lib.hid (fun W h => convD h.v.x)
          go_simp
          (refine wpQuiet_step (fun K hK => ?_); go_simp; refine ⟨(.slice (some ⟨wr.heap.size, 0, none⟩) 16 16), fun W hW => ?_, hK _ ?_⟩; (first | exact ⟨rfl, rfl⟩ | rfl | (rw [if_pos (by omega)]; exact ⟨rfl, rfl⟩) | (rw [if_pos (by omega), if_neg (by omega)]; exact ⟨rfl, rfl⟩) | (rw [if_neg (by omega)]; exact ⟨rfl, rfl⟩)); clear hK K)
          (refine wpQuiet_step (fun K hK => ?_); go_simp; refine ⟨(.string ⟨E.toArray⟩), fun W hW => ?_, hK _ ?_⟩; (first | (rw [CA.out W hW]; exact ⟨rfl, rfl⟩) | (rw [CA.out W hW]; rfl)); clear hK K)
          (refine wpQuiet_step (fun K hK => ?_); go_simp; refine ⟨(.slice (some ⟨gx, 0, none⟩) 16 16), fun W hW => ?_, hK _ ?_⟩; (first | exact ⟨rfl, rfl⟩ | rfl | (rw [if_pos (by omega)]; exact ⟨rfl, rfl⟩) | (rw [if_pos (by omega), if_neg (by omega)]; exact ⟨rfl, rfl⟩) | (rw [if_neg (by omega)]; exact ⟨rfl, rfl⟩)); clear hK K)
          (refine wpQuiet_step (fun K hK => ?_); go_simp; refine ⟨(.string ⟨R.toArray⟩), fun W hW => ?_, hK _ ?_⟩; (first | (rw [CB.out W hW]; exact ⟨rfl, rfl⟩) | (rw [CB.out W hW]; rfl)); clear hK K)
          refine wpQuiet_nil ?_
          clear Y CA CB
          intro w8 Y
          go_wp2_with (first
            | (go_at_call 39; (with_reducible refine (HS2.out E R (t :: L) _ HEL.out HRL.out (HTB.out hkn) Y.v.i).mono ?_); rintro e w9 ⟨rfl, hi9, hk9⟩; unfold dv; replace Y := Y.kp hk9 hi9; clear hi9 hk9)
            | (refine store_d (.tmp 13) (.tmp 59) rfl rfl gx 0 rfl (HH.sh (HH.ni E R)) rfl (sh_length _) Y.v.x.there ?_; refine Hash.gen_world (Pq := fun W => Vg Fr I w w4 W (HH.ni E R :: t :: L) gx (HH.sh (HH.ni E R)) wr.heap.size E) (G := fun W => wpList _ _ _ _ _ W) (Y.putx HSS.out HBS.out (sh_length _)) ?_; clear Y; intro w10 Y))
          go_roundw
          case rel => exact ⟨k + 1, _, _, by omega, by go_num, by rw [List.length_cons, HLK.out], HF1.out, Y.v⟩
          case measure => simp [intOf]; omega
        · have w1 : ¬ (hi : Int) ≤ (J : Int) := by omega
          have HF1 : Hid (fol HH J (ps.take (k + 1)).reverse (p.take (k + 1)).reverse d = HH.ni R E :: t :: L) := Lib.hid (by rw [HNX.out, if_neg h1, HRR.out])
          go_wp2_with (first
            | (refine load_d 45 rfl rfl (.tmp 44) rfl b (o + k * 16) rfl E HEL.out hr1 ?_)
            | (refine store_d (.tmp 15) (.tmp 45) rfl rfl wr.heap.size 0 rfl E rfl HEL.out (dg_zero wr _).there ?_; refine Hash.gen_world (Pq := fun W => Vg Fr I w w4 W (t :: L) gx R wr.heap.size E) (G := fun W => wpList _ _ _ _ _ W) (vg_new HSS.out Y HEL.out) ?_; clear Y hr1; intro w7 Y; have c8 := HR4.out _ Y.v.k4))
          clear c8
          refine QTail.moved (C := fun W => Vg Fr I w w4 W (t :: L) gx R wr.heap.size E) 5 (.tmp 4) rfl rfl (by kernel_rfl) (by kernel_rfl) (Y.on HSS.out (Hash.belowD _)) (fun _ _ _ _ h => h) ?_
          have CA : Hid (∀ W, Vg Fr I w w4 W (t :: L) gx R wr.heap.size E → (convert 38 9 (.slice (some ⟨wr.heap.size, 0, none⟩) 16 16)).run Tryd.prog W = .ok (.string ⟨E.toArray⟩) W) := Lib.hid (fun W h => convD h.e)
          have CB : Hid (∀ W, Vg Fr I w w4 W (t :: L) gx R wr.heap.size E → (convert 38 9 (.slice (some ⟨gx, 0, none⟩) 16 16)).run Tryd.prog W = .ok (.string ⟨R.toArray⟩) W) := Lib.hid (fun W h => convD h.v.x)
          go_simp
          (refine wpQuiet_step (fun K hK => ?_); go_simp; refine ⟨(.slice (some ⟨gx, 0, none⟩) 16 16), fun W hW => ?_, hK _ ?_⟩; (first | exact ⟨rfl, rfl⟩ | rfl | (rw [if_pos (by omega)]; exact ⟨rfl, rfl⟩) | (rw [if_pos (by omega), if_neg (by omega)]; exact ⟨rfl, rfl⟩) | (rw [if_neg (by omega)]; exact ⟨rfl, rfl⟩)); clear hK K)
          (refine wpQuiet_step (fun K hK => ?_); go_simp; refine ⟨(.string ⟨R.toArray⟩), fun W hW => ?_, hK _ ?_⟩; (first | (rw [CB.out W hW]; exact ⟨rfl, rfl⟩) | (rw [CB.out W hW]; rfl)); clear hK K)
          (refine wpQuiet_step (fun K hK => ?_); go_simp; refine ⟨(.slice (some ⟨wr.heap.size, 0, none⟩) 16 16), fun W hW => ?_, hK _ ?_⟩; (first | exact ⟨rfl, rfl⟩ | rfl | (rw [if_pos (by omega)]; exact ⟨rfl, rfl⟩) | (rw [if_pos (by omega), if_neg (by omega)]; exact ⟨rfl, rfl⟩) | (rw [if_neg (by omega)]; exact ⟨rfl, rfl⟩)); clear hK K)
          (refine wpQuiet_step (fun K hK => ?_); go_simp; refine ⟨(.string ⟨E.toArray⟩), fun W hW => ?_, hK _ ?_⟩; (first | (rw [CA.out W hW]; exact ⟨rfl, rfl⟩) | (rw [CA.out W hW]; rfl)); clear hK K)
          refine wpQuiet_nil ?_
          clear Y CA CB
          intro w8 Y
          go_wp2_with (first
            | (go_at_call 39; (with_reducible refine (HS2.out R E (t :: L) _ HRL.out HEL.out (HTB.out hkn) Y.v.i).mono ?_); rintro e w9 ⟨rfl, hi9, hk9⟩; unfold dv; replace Y := Y.kp hk9 hi9; clear hi9 hk9)
            | (refine store_d (.tmp 13) (.tmp 66) rfl rfl gx 0 rfl (HH.sh (HH.ni R E)) rfl (sh_length _) Y.v.x.there ?_; refine Hash.gen_world (Pq := fun W => Vg Fr I w w4 W (HH.ni R E :: t :: L) gx (HH.sh (HH.ni R E)) wr.heap.size E) (G := fun W => wpList _ _ _ _ _ W) (Y.putx HSS.out HBS.out (sh_length _)) ?_; clear Y; intro w10 Y))
          go_roundw
          case rel => exact ⟨k + 1, _, _, by omega, by go_num, by rw [List.length_cons, HLK.out], HF1.out, Y.v⟩
          case measure => simp [intOf]; omega
      · obtain rfl : k = m4 := by omega
        have y1 : ¬ ((k : Nat) : Int) < (k : Int) := by omega
        rw [show ps.take k = ps from List.take_of_length_le (by rw [← HQ.out]; exact Nat.le_refl _), show p.take k = p from List.take_of_length_le (by rw [HPL.out]; exact Nat.le_refl _)] at hfo
        have HFO2 := Lib.hid hfo
        have HEN : Hid ((loadVar 29 ⟨w.heap.size + 1, 0, none⟩).run Tryd.prog (wr.setCells (w.heap.size + 1) 0 ((HH.sh t).map bv)) = .ok (dv (HH.sh t)) (wr.setCells (w.heap.size + 1) 0 ((HH.sh t).map bv)) ∧ I (t :: L) (wr.setCells (w.heap.size + 1) 0 ((HH.sh t).map bv)) ∧ Kp Fr w (wr.setCells (w.heap.size + 1) 0 ((HH.sh t).map bv))) := Lib.hid
          ⟨run_loadVar_mid _ _ _ _ _ _ (Y.r.put HTL.out).range und_d rfl (info_d HTL.out), HSS.out.put _ _ _ _ Y.i Y.fr (by have := HBS.out; omega), kp_put HSS.out _ Y.i Y.fr (by have := HBS.out; omega) (by omega) Y.k⟩
        clear hfo HRE HRP
        go_wp2_with (first
          | (refine load_d 68 rfl rfl (.tmp 13) rfl gx 0 rfl (HH.sh t) HTL.out Y.x.range ?_; unfold dv)
          | (refine store_d (.tmp 10) (.tmp 68) rfl rfl (w.heap.size + 1) 0 rfl (HH.sh t) rfl HTL.out Y.r.there ?_))
        refine bodyPost_ret (v := .tuple #[dv (HH.sh t), .bool true]) ?_ rfl ⟨HH.sh t, HTL.out, (fun t' l' h => by rw [HFO2.out] at h; cases h; rfl), rfl, by rw [HFO2.out]; exact HEN.out.2.1, HEN.out.2.2⟩
        simp [results, Tryd.results46, asAddr]
        rw [HEN.out.1]
        rfl
  · have hq2 : ¬ (q : Int) = (ps.length : Int) := by omega
    have hq3 : ((q : Int) == (ps.length : Int)) = false := by simpa using hq2
    rw [if_neg hq]
    clear hb hn hJ hpl hgl hq hl hA hi0 s1 s2 hd P0 z1 z2 P1
    unfold dv at *
    go_enter Tryd.func46, Tryd.ntmps46
    go_wp2_with (first
      | (go_at_call 35; (with_reducible refine (HS.out _).mono ?_); rintro e w4 ⟨v4, m4, rfl, ho, hb⟩; have hm4 := ho.len; obtain ⟨A4, c4, rfl, hp4⟩ := ho.form; subst hm4; replace Z := bcj Z hb; replace R0 := R0.on hb; clear hb ho hp4)
      | (refine store_d (.tmp 10) (.tmp 33) rfl rfl (w.heap.size + 1) 0 rfl zero rfl zero_length R0.there ?_))
    have HE := HZ.out _ Z R0
    refine bodyPost_ret (v := .tuple #[dv zero, .bool false]) ?_ rfl ⟨zero, zero_length, (fun t l h => by cases h), rfl, HE.2.1, HE.2.2⟩
    simp [results, Tryd.results46, asAddr]
    rw [HE.1]
    rfl
end Mk
end Go.Proofs.YthpkeaafgabjiaaDoor

/- The package merkle: Verify. Conditions: the slice reads as a list of digests, the tables are laid. -/
namespace Go.Proofs.YthpkeaafgabjiaaDoor
open Go.RowKit
namespace Mk
open Wire (bv sv Lies)
open Hash (Arr bcj ofDig)

/-- Where steps change nothing that is there. -/
theorem steps_plain (w : World) : Steps w.heap.size (fun _ W => Below w.heap.size w W) (fun W k => k < W.heap.size) :=
  ⟨fun _ _ h => h, fun _ _ _ h hb => bcj h hb, fun _ _ _ _ _ hb h => Nat.lt_of_lt_of_le h hb.size, fun _ _ _ _ _ _ _ _ h _ => (Array.getElem?_eq_some_iff.1 h).1,
    fun _ _ _ vs h _ hg => h.trans (Hash.below_cells hg vs 0 _), fun _ W g vs _ _ _ _ h => Nat.lt_of_lt_of_le h (Hash.below_cells (Nat.le_refl g) vs 0 W).size⟩
theorem kp_plain {w W : World} {x : List UInt8} {L : List (List UInt8)} {e : Ending} {W2 : World} (hz : Below w.heap.size w W) (h : GivesD (HH.sh x) W e W2) : GivesN (fun W k => k < W.heap.size) (fun _ W => Below w.heap.size w W) x L W e W2 :=
  ⟨h.1, bcj hz h.2, (steps_plain w).kp (L := []) hz h.2⟩
theorem verI_eq (n i : Int) (d : List UInt8) (p : List (List UInt8)) (root : List UInt8) : verI n i d p root = verd (inpI n i d p) root := by
  unfold verI inpI
  by_cases h : 0 ≤ i ∧ i < n
  · rw [if_pos h, if_pos h]
  · rw [if_neg h, if_neg h]; rfl

set_option maxRecDepth 100000 in
set_option maxHeartbeats 1000000 in
theorem verify_any (root d : List UInt8) (n i : Int) (q c : Nat) (A : Option Addr) (p : List (List UInt8)) (w : World) (hr : root.length = 16) (hd : d.length = 16) (hn : n ≤ 9223372036854775807) (hl : LiesD w w.heap.size A q c p) (ht : TP w) :
    Calls Tryd.prog 18 #[dv root, .int .i64 n, .int .i64 i, dv d, .slice A q c] w (GivesT (verI n i d p root) w) := by
  rw [verI_eq]
  have Y := vb_new w hr hd 29 29
  have HFO : Hid (∀ W, Below w.heap.size w W → Calls Tryd.prog 46 #[.int .i64 n, .int .i64 i, dv d, .slice A q c, .func (.func 39) #[] #[]] W (GivesF (fun W k => k < W.heap.size) (fun _ V => Below W.heap.size W V) (inpI n i d p) W)) :=
    Lib.hid (fun W hz => followO_any (steps_plain W) n i d hd q c A p W hn ((hl.below hz).more hz.size) (fun b o _ _ h => h) (Below.refl _ _) (Nat.le_refl _)
      (fun x L V hx _ hV => (pOf_lit1 1 x hx V ((ht.on hz).on hV)).mono fun e V2 h => kp_plain hV h)
      (fun x y L V hx hy _ hV => (pOf_lit2 2 x y hx hy V ((ht.on hz).on hV)).mono fun e V2 h => kp_plain hV h))
  have HI := inpI_inp (n := n) (i := i) (d := d) (p := p)
  have HD := Lib.hid hd
  have HR := Lib.hid hr
  have hne : ∀ L, inpI n i d p = some L → ∃ t q, L = t :: q := fun L h => by
    unfold inpI at h
    split at h
    · exact inputs_ne HH h
    · cases h
  clear HI
  unfold dv at *
  generalize inpI n i d p = o at *
  clear hl ht hn hr hd
  cases o with
  | none =>
    clear hne
    go_enter Tryd.func18, Tryd.ntmps18
    go_wp2_with (first
      | (refine load_d 16 rfl rfl (.tmp 8) rfl (w.heap.size + 1) 0 rfl d HD.out Y.b.range ?_; unfold dv)
      | (go_at_call 46; (with_reducible refine (HFO.out _ Y.z).mono ?_); rintro e w5 ⟨R, hRl, -, rfl, hb, -⟩; unfold dv; have HRL := Lib.hid hRl; replace Y := Y.on hb; clear hb hRl)
      | (refine store_d (.tmp 11) (.tmp 19) rfl rfl w5.heap.size 0 rfl R rfl HRL.out (dg_zero w5 _).there ?_; refine Hash.gen_world (Pq := fun W => Vb w W root d) (G := fun W => wpList _ _ _ _ _ W) (Y.on ((Wire.b1 _ _).trans (Hash.below_cells (Nat.le_refl _) _ _ _))) ?_; clear Y; intro w6 Y))
    go_ret
    exact ⟨rfl, Y.z⟩
  | some L =>
    obtain ⟨t, q', rfl⟩ := hne L rfl
    have HTL := Lib.hid (sh_length t)
    have E1 := Lib.hid (fun W => eql_d (HH.sh t) root (sh_length t) HR.out W)
    clear hne
    go_enter Tryd.func18, Tryd.ntmps18
    go_wp2_with (first
      | (refine load_d 16 rfl rfl (.tmp 8) rfl (w.heap.size + 1) 0 rfl d HD.out Y.b.range ?_; unfold dv)
      | (go_at_call 46; (with_reducible refine (HFO.out _ Y.z).mono ?_); rintro e w5 ⟨R, -, hR, rfl, hb, -⟩; have hR2 := hR t q' rfl; clear hR; subst hR2; unfold dv; replace Y := Y.on hb; clear hb)
      | (refine store_d (.tmp 11) (.tmp 19) rfl rfl w5.heap.size 0 rfl (HH.sh t) rfl HTL.out (dg_zero w5 _).there ?_; refine Hash.gen_world (Pq := fun W => Vb w W root d ∧ Dg W w5.heap.size (HH.sh t)) (G := fun W => wpList _ _ _ _ _ W) ⟨Y.on ((Wire.b1 _ _).trans (Hash.below_cells (Nat.le_refl _) _ _ _)), (dg_zero w5 _).put HTL.out⟩ ?_; clear Y; intro w6 Y6; obtain ⟨Y, hd6⟩ := Y6; have HD6 := Lib.hid hd6; clear hd6; have e1 := E1.out)
      | (refine QTail.loadG (by rfl) 29 (.tmp 11) rfl w5.heap.size 0 rfl ((HH.sh t).map bv) _ HD6.out.range und_d rfl (info_d HTL.out) ?_)
      | (refine QTail.loadG (by rfl) 29 (.tmp 5) rfl w.heap.size 0 rfl (root.map bv) _ Y.a.range und_d rfl (info_d HR.out) ?_))
    go_ret
    exact ⟨by simp [verd], Y.z⟩
end Mk
end Go.Proofs.YthpkeaafgabjiaaDoor

/- The package merkle: follow, where each step is collected. Conditions: the slice reads as a list of digests, the tables are laid. -/
namespace Go.Proofs.YthpkeaafgabjiaaDoor
open Go.RowKit
namespace Mk
open Wire (bv sv Lies)
open Hash (Arr bcj ofDig)

set_option maxRecDepth 100000 in
set_option maxHeartbeats 8000000 in
theorem followI_any {bs : Nat} {I : List (List UInt8) → World → Prop} {Fr : World → Nat → Prop} (S : Steps bs I Fr) (gb : Nat) (n i : Int) (d : List UInt8) (hd : d.length = 16) (q c : Nat) (A : Option Addr) (p : List (List UInt8)) (w : World) (hn : n ≤ 9223372036854775807) (hl : LiesD w w.heap.size A q c p)
    (hA : ∀ b o, A = some ⟨b, o, none⟩ → 0 < q → b < w.heap.size → Fr w b) (hi0 : I [] w) (hbs : bs ≤ w.heap.size)
    (s1 : ∀ (x : List UInt8) (L : List (List UInt8)) (W : World), x.length = 16 → L.length ≤ 100 → I L W → Calls Tryd.prog 65 (#[.int .i64 1, .slice (some ⟨W.heap.size, 0, none⟩) 1 1, .pointer (some ⟨gb, 0, none⟩)]) (W.alloc (.cells #[.string ⟨x.toArray⟩] 9)) (GivesN Fr I (HH.li x) L W))
    (s2 : ∀ (x y : List UInt8) (L : List (List UInt8)) (W : World), x.length = 16 → y.length = 16 → L.length ≤ 100 → I L W → Calls Tryd.prog 65 (#[.int .i64 2, .slice (some ⟨W.heap.size, 0, none⟩) 2 2, .pointer (some ⟨gb, 0, none⟩)]) (W.alloc (.cells #[.string ⟨x.toArray⟩, .string ⟨y.toArray⟩] 9)) (GivesN Fr I (HH.ni x y) L W)) :
    Calls Tryd.prog 46 #[.int .i64 n, .int .i64 i, dv d, .slice A q c, .func (.func 65) #[] #[.pointer (some ⟨gb, 0, none⟩)]] w (GivesF Fr I (inpI n i d p) w) := by
  have P0 := dg_new w hd 29
  have z1 := Wire.b1 w (.cells (d.map bv).toArray 29)
  have R0 := dg_zero (w.alloc (.cells (d.map bv).toArray 29)) 29
  have z2 := Wire.b1 (w.alloc (.cells (d.map bv).toArray 29)) (.cells #[.int .u8 0, .int .u8 0, .int .u8 0, .int .u8 0, .int .u8 0, .int .u8 0, .int .u8 0, .int .u8 0, .int .u8 0, .int .u8 0, .int .u8 0, .int .u8 0, .int .u8 0, .int .u8 0, .int .u8 0, .int .u8 0] 29)
  rw [Wire.size_alloc] at R0
  have P1 := P0.on z2
  have HO0 : Hid (∀ W, Below ((w.alloc (.cells (d.map bv).toArray 29)).alloc (.cells #[.int .u8 0, .int .u8 0, .int .u8 0, .int .u8 0, .int .u8 0, .int .u8 0, .int .u8 0, .int .u8 0, .int .u8 0, .int .u8 0, .int .u8 0, .int .u8 0, .int .u8 0, .int .u8 0, .int .u8 0, .int .u8 0] 29)).heap.size ((w.alloc (.cells (d.map bv).toArray 29)).alloc (.cells #[.int .u8 0, .int .u8 0, .int .u8 0, .int .u8 0, .int .u8 0, .int .u8 0, .int .u8 0, .int .u8 0, .int .u8 0, .int .u8 0, .int .u8 0, .int .u8 0, .int .u8 0, .int .u8 0, .int .u8 0, .int .u8 0] 29)) W → ∃ cs, W.heap[w.heap.size + 1]? = some (.cells cs 29 (0, 0))) := Lib.hid (fun W hb => ⟨#[.int .u8 0, .int .u8 0, .int .u8 0, .int .u8 0, .int .u8 0, .int .u8 0, .int .u8 0, .int .u8 0, .int .u8 0, .int .u8 0, .int .u8 0, .int .u8 0, .int .u8 0, .int .u8 0, .int .u8 0, .int .u8 0], (hb.block _ (by rw [World.size_alloc, World.size_alloc]; omega)).trans (by
    have h := heap_alloc_new (w.alloc (.cells (d.map bv).toArray 29)) (.cells #[.int .u8 0, .int .u8 0, .int .u8 0, .int .u8 0, .int .u8 0, .int .u8 0, .int .u8 0, .int .u8 0, .int .u8 0, .int .u8 0, .int .u8 0, .int .u8 0, .int .u8 0, .int .u8 0, .int .u8 0, .int .u8 0] 29)
    rw [Wire.size_alloc] at h
    exact h)⟩)
  have Z := bcj z1 z2
  have HD := Lib.hid hd
  have HZ : Hid (∀ W, Below w.heap.size w W → Dg W (w.heap.size + 1) zero → (loadVar 29 ⟨w.heap.size + 1, 0, none⟩).run Tryd.prog (W.setCells (w.heap.size + 1) 0 (zero.map bv)) = .ok (dv zero) (W.setCells (w.heap.size + 1) 0 (zero.map bv)) ∧ I [] (W.setCells (w.heap.size + 1) 0 (zero.map bv)) ∧ Kp Fr w (W.setCells (w.heap.size + 1) 0 (zero.map bv))) := Lib.hid (fun W hb hr => by
    have he := dg_end hr zero_length hb (by omega)
    exact ⟨he.1, S.on [] w _ hi0 he.2, S.kp hi0 he.2⟩)
  by_cases hb : i < 0 ∨ n ≤ i
  · have ho : inpI n i d p = none := by unfold inpI; rw [if_neg (by omega)]
    rw [ho]
    have h2 : i < 0 ∨ (¬ i < 0 ∧ n ≤ i) := by omega
    clear hb ho hl hA hi0 s1 s2 hd P0 z1 z2 P1
    unfold dv at *
    rcases h2 with h | ⟨h, h3⟩
    all_goals
      go_enter Tryd.func46, Tryd.ntmps46
      go_wp2_with (refine store_d (.tmp 10) (.tmp 23) rfl rfl (w.heap.size + 1) 0 rfl zero rfl zero_length R0.there ?_)
      have HE := HZ.out _ Z R0
      refine bodyPost_ret (v := .tuple #[dv zero, .bool false]) ?_ rfl ⟨zero, zero_length, (fun t l h => by cases h), rfl, HE.2.1, HE.2.2⟩
      simp [results, Tryd.results46, asAddr]
      rw [HE.1]
      rfl
  obtain ⟨N, rfl⟩ : ∃ N : Nat, n = (N : Int) := ⟨n.toNat, by omega⟩
  obtain ⟨J, rfl⟩ : ∃ J : Nat, i = (J : Int) := ⟨i.toNat, by omega⟩
  have hJ : J < N := by omega
  rw [inpI_in hJ]
  have hpl := hl.len
  have hmost : c ≤ 9223372036854775807 := by have := hl.lies.most; unfold maxLen at this; omega
  have hle := hl.lies.le
  have HS : Hid (∀ W, Calls Tryd.prog 35 #[.agg #[.int .i64 0, .int .i64 (N : Int)], .int .i64 (J : Int)] W (GivesS (sibs 0 N J) W)) := Lib.hid (fun W => siblings_any N 0 N J W (by omega) (by omega) (by omega) hJ)
  have hgl := sibs_length 63 0 N J (by have : (2 : Nat) ^ 63 = 9223372036854775808 := by decide
                                       omega)
  generalize sibs 0 N J = ps at *
  have x0 : ¬ (J : Int) < 0 := by omega
  have x1 : ¬ (N : Int) ≤ (J : Int) := by omega
  rw [hpl]
  by_cases hq : q = ps.length
  · rw [if_pos hq]
    have HQ := Lib.hid hq
    have HPL := Lib.hid hpl
    have HOK := Lib.hid hl.ok
    have HFO : Hid (∀ k, ∃ t l, fol HH J (ps.take k).reverse (p.take k).reverse d = t :: l) := Lib.hid (fun k => fol_cons HH J _ _ d)
    have hq64 : q ≤ 63 := by omega
    have hq2 : ((q : Nat) : Int) = (ps.length : Int) := by omega
    have HI0 := Lib.hid hi0
    have HSS := Lib.hid S
    have HS1 := Lib.hid s1
    have HS2 := Lib.hid s2
    have HBS := Lib.hid hbs
    clear hb hn hJ hpl hgl hq hi0 s1 s2 hd P0 z1 z2 hbs
    unfold dv
    go_enter Tryd.func46, Tryd.ntmps46
    go_wp2_with (first
      | (go_at_call 35; (with_reducible refine (HS.out _).mono ?_); rintro e w4 ⟨v4, m4, rfl, ho, hb⟩; have hm4 := ho.len; obtain ⟨A4, c4, rfl, hp4⟩ := ho.form; have hm5 : m4 = q := by omega
         subst hm5; have HF := Lib.hid (show w.heap.size + 1 + 1 ≤ w4.heap.size by have := hb.size; rw [Wire.size_alloc, Wire.size_alloc] at this; exact this); have HP4 := Lib.hid hp4; replace P1 := P1.on hb; replace R0 := R0.on hb; have HR0 := Lib.hid R0; have HST := Lib.hid (fol_start HSS.out HI0.out (bcj Z hb) (HO0.out _ hb) ho Z.size); clear Z R0 hb ho hp4; have hcv := convD P1)
      | (go_at_call 65; (with_reducible refine (HS1.out d [] _ HD.out (Nat.zero_le _) HST.out.1).mono ?_); rintro e w5 ⟨rfl, hi5, hk5⟩; unfold dv; have HVF := Lib.hid (vf_new HSS.out (HR0.out.kp hk5 HST.out.2.2.1) (hk5.free _ HST.out.2.2.1) hi5 (HST.out.2.1.trans hk5) hk5 HF.out (sh_length (HH.li d))); clear hi5 hk5 hcv P1)
      | (refine store_d (.tmp 13) (.tmp 38) rfl rfl w5.heap.size 0 rfl (HH.sh (HH.li d)) rfl (sh_length _) (dg_zero w5 _).there ?_; refine Hash.gen_world (Pq := fun W => Vf Fr I w w4 W [HH.li d] w5.heap.size (HH.sh (HH.li d))) (G := fun W => wpList _ _ _ _ _ W) HVF.out ?_; clear HVF; intro w6 Y))
    revert Y
    generalize w5.heap.size = gx
    intro Y
    have HRE : Hid (∀ W k e, Kp Fr w W → p[k]? = some e → ∃ b o, A = some ⟨b, o, none⟩ ∧ W.rangeAt b (o + k * 16) (e.map bv)) := Lib.hid (fun W k e hk he => by
      obtain ⟨b, o, e1, hb, hr⟩ := hl.row he
      exact ⟨b, o, e1, range_kp hr hk (hA b o e1 (by have h1 := (List.getElem?_eq_some_iff.1 he).1; rw [HPL.out] at h1; omega) hb)⟩)
    have HRP : Hid (∀ W k a, Kp Fr w4 W → ps[k]? = some a → ∃ b o, A4 = some ⟨b, o, none⟩ ∧ W.rangeAt b (o + k * 2) (ptc a.1 a.2)) := Lib.hid (fun W k a hk ha => by
      obtain ⟨b, o, e1, hb, hr⟩ := parts_row HP4.out ha
      exact ⟨b, o, e1, range_kp hr hk (HST.out.2.2.2 b o e1)⟩)
    clear hl hA S
    go_loopw [41] (fun kv wr => ∃ (k : Nat) (t : List UInt8) (L : List (List UInt8)), k ≤ m4 ∧ kv = .int .i64 (k : Int) ∧ L.length = k ∧ fol HH J (ps.take k).reverse (p.take k).reverse d = t :: L ∧ Vf Fr I w w4 wr (t :: L) gx (HH.sh t)) (fun kv _ => (m4 - intOf kv).toNat)
    case atStart => exact ⟨0, HH.li d, [], by omega, rfl, rfl, by rw [List.take_zero, List.take_zero, List.reverse_nil, List.reverse_nil]; exact fol_nil HH J d, Y⟩
    case round =>
      obtain ⟨k, t, L, hk, rfl, hLk, hfo, Y0⟩ := hrel
      have HLK := Lib.hid hLk
      have HTB : Hid (k < m4 → (t :: L).length ≤ 100) := Lib.hid (fun h => by rw [List.length_cons]; omega)
      clear hLk
      clear Y
      have Y := Y0
      clear Y0
      have HTL := Lib.hid (sh_length t)
      by_cases hkn : k < m4
      · obtain ⟨E, hE⟩ : ∃ e, p[k]? = some e := ⟨_, List.getElem?_eq_getElem (by rw [HPL.out]; exact hkn)⟩
        obtain ⟨⟨lo, hi⟩, hpa⟩ : ∃ a, ps[k]? = some a := ⟨_, List.getElem?_eq_getElem (by rw [← HQ.out]; exact hkn)⟩
        have hEl := HOK.out E (List.mem_of_getElem? hE)
        have HEL := Lib.hid hEl
        obtain ⟨b, o, rfl, hr1⟩ := HRE.out wr k E Y.k hE
        obtain ⟨b4, o4, rfl, -⟩ := HRP.out wr k _ Y.k4 hpa
        have HR4 : Hid (∀ W, Kp Fr w4 W → W.cell? ⟨b4, o4 + k * 2 + 1, none⟩ = some (.int .i64 (hi : Int))) := Lib.hid (fun W hz => by
          obtain ⟨b', o', e', h'⟩ := HRP.out W k _ hz hpa
          cases e'
          exact h' 1 _ rfl)
        have HNX := Lib.hid (fol_next hpa hE hfo)
        have y0 : (0 : Int) ≤ (k : Int) := by omega
        have y1 : (k : Int) < (m4 : Int) := by omega
        have c7 : (HH.sh t).length = 16 := HTL.out
        obtain ⟨R, hR⟩ : ∃ R, R = HH.sh t := ⟨_, rfl⟩
        rw [← hR] at Y c7
        have HRR := Lib.hid hR
        have HRL := Lib.hid c7
        clear hE hpa hEl HRE HRP hfo hR c7
        by_cases h1 : hi ≤ J
        · have w1 : (hi : Int) ≤ (J : Int) := by omega
          have HF1 : Hid (fol HH J (ps.take (k + 1)).reverse (p.take (k + 1)).reverse d = HH.ni E R :: t :: L) := Lib.hid (by rw [HNX.out, if_pos h1, HRR.out])
          go_wp2_with (first
            | (refine load_d 45 rfl rfl (.tmp 44) rfl b (o + k * 16) rfl E HEL.out hr1 ?_)
            | (refine store_d (.tmp 15) (.tmp 45) rfl rfl wr.heap.size 0 rfl E rfl HEL.out (dg_zero wr _).there ?_; refine Hash.gen_world (Pq := fun W => Vg Fr I w w4 W (t :: L) gx R wr.heap.size E) (G := fun W => wpList _ _ _ _ _ W) (vg_new HSS.out Y HEL.out) ?_; clear Y hr1; intro w7 Y; have c8 := HR4.out _ Y.v.k4))
          clear c8
          refine QTail.moved (C := fun W => Vg Fr I w w4 W (t :: L) gx R wr.heap.size E) 5 (.tmp 4) rfl rfl (by kernel_rfl) (by kernel_rfl) (Y.on HSS.out (Hash.belowD _)) (fun _ _ _ _ h => h) ?_
          have CA : Hid (∀ W, Vg Fr I w w4 W (t :: L) gx R wr.heap.size E → (convert 38 9 (.slice (some ⟨wr.heap.size, 0, none⟩) 16 16)).run Tryd.prog W = .ok (.string ⟨E.toArray⟩) W) := Lib.hid (fun W h => convD h.e)
          have CB : Hid (∀ W, Vg Fr I w w4 W (t :: L) gx R wr.heap.size E → (convert 38 9 (.slice (some ⟨gx, 0, none⟩) 16 16)).run Tryd.prog W = .ok (.string ⟨R.toArray⟩) W) := Lib.hid (fun W h => convD h.v.x)
          go_simp
          (refine wpQuiet_step (fun K hK => ?_); go_simp; refine ⟨(.slice (some ⟨wr.heap.size, 0, none⟩) 16 16), fun W hW => ?_, hK _ ?_⟩; (first | exact ⟨rfl, rfl⟩ | rfl | (rw [if_pos (by omega)]; exact ⟨rfl, rfl⟩) | (rw [if_pos (by omega), if_neg (by omega)]; exact ⟨rfl, rfl⟩) | (rw [if_neg (by omega)]; exact ⟨rfl, rfl⟩)); clear hK K)
          (refine wpQuiet_step (fun K hK => ?_); go_simp; refine ⟨(.string ⟨E.toArray⟩), fun W hW => ?_, hK _ ?_⟩; (first | (rw [CA.out W hW]; exact ⟨rfl, rfl⟩) | (rw [CA.out W hW]; rfl)); clear hK K)
          (refine wpQuiet_step (fun K hK => ?_); go_simp; refine ⟨(.slice (some ⟨gx, 0, none⟩) 16 16), fun W hW => ?_, hK _ ?_⟩; (first | exact ⟨rfl, rfl⟩ | rfl | (rw [if_pos (by omega)]; exact ⟨rfl, rfl⟩) | (rw [if_pos (by omega), if_neg (by omega)]; exact ⟨rfl, rfl⟩) | (rw [if_neg (by omega)]; exact ⟨rfl, rfl⟩)); clear hK K)
          (refine wpQuiet_step (fun K hK => ?_); go_simp; refine ⟨(.string ⟨R.toArray⟩), fun W hW => ?_, hK _ ?_⟩; (first | (rw [CB.out W hW]; exact ⟨rfl, rfl⟩) | (rw [CB.out W hW]; rfl)); clear hK K)
          refine wpQuiet_nil ?_
          clear Y CA CB
          intro w8 Y
          go_wp2_with (first
            | (go_at_call 65; (with_reducible refine (HS2.out E R (t :: L) _ HEL.out HRL.out (HTB.out hkn) Y.v.i).mono ?_); rintro e w9 ⟨rfl, hi9, hk9⟩; unfold dv; replace Y := Y.kp hk9 hi9; clear hi9 hk9)
            | (refine store_d (.tmp 13) (.tmp 59) rfl rfl gx 0 rfl (HH.sh (HH.ni E R)) rfl (sh_length _) Y.v.x.there ?_; refine Hash.gen_world (Pq := fun W => Vg Fr I w w4 W (HH.ni E R :: t :: L) gx (HH.sh (HH.ni E R)) wr.heap.size E) (G := fun W => wpList _ _ _ _ _ W) (Y.putx HSS.out HBS.out (sh_length _)) ?_; clear Y; intro w10 Y))
          go_roundw
          case rel => exact ⟨k + 1, _, _, by omega, by go_num, by rw [List.length_cons, HLK.out], HF1.out, Y.v⟩
          case measure => simp [intOf]; omega
        · have w1 : ¬ (hi : Int) ≤ (J : Int) := by omega
          have HF1 : Hid (fol HH J (ps.take (k + 1)).reverse (p.take (k + 1)).reverse d = HH.ni R E :: t :: L) := Lib.hid (by rw [HNX.out, if_neg h1, HRR.out])
          go_wp2_with (first
            | (refine load_d 45 rfl rfl (.tmp 44) rfl b (o + k * 16) rfl E HEL.out hr1 ?_)
            | (refine store_d (.tmp 15) (.tmp 45) rfl rfl wr.heap.size 0 rfl E rfl HEL.out (dg_zero wr _).there ?_; refine Hash.gen_world (Pq := fun W => Vg Fr I w w4 W (t :: L) gx R wr.heap.size E) (G := fun W => wpList _ _ _ _ _ W) (vg_new HSS.out Y HEL.out) ?_; clear Y hr1; intro w7 Y; have c8 := HR4.out _ Y.v.k4))
          clear c8
          refine QTail.moved (C := fun W => Vg Fr I w w4 W (t :: L) gx R wr.heap.size E) 5 (.tmp 4) rfl rfl (by kernel_rfl) (by kernel_rfl) (Y.on HSS.out (Hash.belowD _)) (fun _ _ _ _ h => h) ?_
          have CA : Hid (∀ W, Vg Fr I w w4 W (t :: L) gx R wr.heap.size E → (convert 38 9 (.slice (some ⟨wr.heap.size, 0, none⟩) 16 16)).run Tryd.prog W = .ok (.string ⟨E.toArray⟩) W) := Lib.hid (fun W h => convD h.e)
          have CB : Hid (∀ W, Vg Fr I w w4 W (t :: L) gx R wr.heap.size E → (convert 38 9 (.slice (some ⟨gx, 0, none⟩) 16 16)).run Tryd.prog W = .ok (.string ⟨R.toArray⟩) W) := Lib.hid (fun W h => convD h.v.x)
          go_simp
          (refine wpQuiet_step (fun K hK => ?_); go_simp; refine ⟨(.slice (some ⟨gx, 0, none⟩) 16 16), fun W hW => ?_, hK _ ?_⟩; (first | exact ⟨rfl, rfl⟩ | rfl | (rw [if_pos (by omega)]; exact ⟨rfl, rfl⟩) | (rw [if_pos (by omega), if_neg (by omega)]; exact ⟨rfl, rfl⟩) | (rw [if_neg (by omega)]; exact ⟨rfl, rfl⟩)); clear hK K)
          (refine wpQuiet_step (fun K hK => ?_); go_simp; refine ⟨(.string ⟨R.toArray⟩), fun W hW => ?_, hK _ ?_⟩; (first | (rw [CB.out W hW]; exact ⟨rfl, rfl⟩) | (rw [CB.out W hW]; rfl)); clear hK K)
          (refine wpQuiet_step (fun K hK => ?_); go_simp; refine ⟨(.slice (some ⟨wr.heap.size, 0, none⟩) 16 16), fun W hW => ?_, hK _ ?_⟩; (first | exact ⟨rfl, rfl⟩ | rfl | (rw [if_pos (by omega)]; exact ⟨rfl, rfl⟩) | (rw [if_pos (by omega), if_neg (by omega)]; exact ⟨rfl, rfl⟩) | (rw [if_neg (by omega)]; exact ⟨rfl, rfl⟩)); clear hK K)
          (refine wpQuiet_step (fun K hK => ?_); go_simp; refine ⟨(.string ⟨E.toArray⟩), fun W hW => ?_, hK _ ?_⟩; (first | (rw [CA.out W hW]; exact ⟨rfl, rfl⟩) | (rw [CA.out W hW]; rfl)); clear hK K)
          refine wpQuiet_nil ?_
          clear Y CA CB
          intro w8 Y
          go_wp2_with (first
            | (go_at_call 65; (with_reducible refine (HS2.out R E (t :: L) _ HRL.out HEL.out (HTB.out hkn) Y.v.i).mono ?_); rintro e w9 ⟨rfl, hi9, hk9⟩; unfold dv; replace Y := Y.kp hk9 hi9; clear hi9 hk9)
            | (refine store_d (.tmp 13) (.tmp 66) rfl rfl gx 0 rfl (HH.sh (HH.ni R E)) rfl (sh_length _) Y.v.x.there ?_; refine Hash.gen_world (Pq := fun W => Vg Fr I w w4 W (HH.ni R E :: t :: L) gx (HH.sh (HH.ni R E)) wr.heap.size E) (G := fun W => wpList _ _ _ _ _ W) (Y.putx HSS.out HBS.out (sh_length _)) ?_; clear Y; intro w10 Y))
          go_roundw
          case rel => exact ⟨k + 1, _, _, by omega, by go_num, by rw [List.length_cons, HLK.out], HF1.out, Y.v⟩
          case measure => simp [intOf]; omega
      · obtain rfl : k = m4 := by omega
        have y1 : ¬ ((k : Nat) : Int) < (k : Int) := by omega
        rw [show ps.take k = ps from List.take_of_length_le (by rw [← HQ.out]; exact Nat.le_refl _), show p.take k = p from List.take_of_length_le (by rw [HPL.out]; exact Nat.le_refl _)] at hfo
        have HFO2 := Lib.hid hfo
        have HEN : Hid ((loadVar 29 ⟨w.heap.size + 1, 0, none⟩).run Tryd.prog (wr.setCells (w.heap.size + 1) 0 ((HH.sh t).map bv)) = .ok (dv (HH.sh t)) (wr.setCells (w.heap.size + 1) 0 ((HH.sh t).map bv)) ∧ I (t :: L) (wr.setCells (w.heap.size + 1) 0 ((HH.sh t).map bv)) ∧ Kp Fr w (wr.setCells (w.heap.size + 1) 0 ((HH.sh t).map bv))) := Lib.hid
          ⟨run_loadVar_mid _ _ _ _ _ _ (Y.r.put HTL.out).range und_d rfl (info_d HTL.out), HSS.out.put _ _ _ _ Y.i Y.fr (by have := HBS.out; omega), kp_put HSS.out _ Y.i Y.fr (by have := HBS.out; omega) (by omega) Y.k⟩
        clear hfo HRE HRP
        go_wp2_with (first
          | (refine load_d 68 rfl rfl (.tmp 13) rfl gx 0 rfl (HH.sh t) HTL.out Y.x.range ?_; unfold dv)
          | (refine store_d (.tmp 10) (.tmp 68) rfl rfl (w.heap.size + 1) 0 rfl (HH.sh t) rfl HTL.out Y.r.there ?_))
        refine bodyPost_ret (v := .tuple #[dv (HH.sh t), .bool true]) ?_ rfl ⟨HH.sh t, HTL.out, (fun t' l' h => by rw [HFO2.out] at h; cases h; rfl), rfl, by rw [HFO2.out]; exact HEN.out.2.1, HEN.out.2.2⟩
        simp [results, Tryd.results46, asAddr]
        rw [HEN.out.1]
        rfl
  · have hq2 : ¬ (q : Int) = (ps.length : Int) := by omega
    have hq3 : ((q : Int) == (ps.length : Int)) = false := by simpa using hq2
    rw [if_neg hq]
    clear hb hn hJ hpl hgl hq hl hA hi0 s1 s2 hd P0 z1 z2 P1
    unfold dv at *
    go_enter Tryd.func46, Tryd.ntmps46
    go_wp2_with (first
      | (go_at_call 35; (with_reducible refine (HS.out _).mono ?_); rintro e w4 ⟨v4, m4, rfl, ho, hb⟩; have hm4 := ho.len; obtain ⟨A4, c4, rfl, hp4⟩ := ho.form; subst hm4; replace Z := bcj Z hb; replace R0 := R0.on hb; clear hb ho hp4)
      | (refine store_d (.tmp 10) (.tmp 33) rfl rfl (w.heap.size + 1) 0 rfl zero rfl zero_length R0.there ?_))
    have HE := HZ.out _ Z R0
    refine bodyPost_ret (v := .tuple #[dv zero, .bool false]) ?_ rfl ⟨zero, zero_length, (fun t l h => by cases h), rfl, HE.2.1, HE.2.2⟩
    simp [results, Tryd.results46, asAddr]
    rw [HE.1]
    rfl
end Mk
end Go.Proofs.YthpkeaafgabjiaaDoor

