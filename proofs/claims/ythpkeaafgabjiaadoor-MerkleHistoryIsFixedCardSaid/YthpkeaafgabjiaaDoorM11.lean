/- MTxt; MInp; MInpB; MVer: what each of these parts proves stands ahead of it. -/
import Derived.Test.YthpkeaafgabjiaaDoorM10
/- Rows of texts of one's own (slices of slices of bytes). No condition. -/
namespace Go.Proofs.YthpkeaafgabjiaaDoor
open Go.RowKit
namespace Mk
open Wire (bv sv Lies own_below own_more)
open Hash (bcj)

/-- A text of one's own, from base on. -/
def Mem (w : World) (base : Nat) (x : List UInt8) (u : Value) : Prop := ∃ g c, u = .slice (some ⟨g, 0, none⟩) x.length c ∧ w.ownsRow base 5 1 u x.length (x.map bv)
/-- A row of texts of one's own, from base on. -/
def OwnT (w : World) (base : Nat) (v : Value) (n : Nat) (l : List (List UInt8)) : Prop :=
  ∃ vs : List Value, w.ownsRow base 38 1 v n vs ∧ vs.length = l.length ∧ ∀ (i : Nat) (x : List UInt8), l[i]? = some x → ∃ u, vs[i]? = some u ∧ Mem w base x u
section
variable {w w' : World} {base n : Nat} {v u : Value} {x : List UInt8} {l : List (List UInt8)}
theorem Mem.on (h : Mem w base x u) (hb : Below w.heap.size w w') : Mem w' base x u := by
  obtain ⟨g, c, e, ho⟩ := h
  exact ⟨g, c, e, own_below ho hb⟩
theorem Mem.more {base' : Nat} (h : Mem w base x u) (hb : base' ≤ base) : Mem w base' x u := by
  obtain ⟨g, c, e, ho⟩ := h
  exact ⟨g, c, e, own_more ho hb⟩
theorem Mem.lies (h : Mem w base x u) : ∃ g c, u = .slice (some ⟨g, 0, none⟩) x.length c ∧ g < w.heap.size ∧ Lies w w.heap.size 1 (some ⟨g, 0, none⟩) x.length c (x.map bv) := by
  obtain ⟨g, c, rfl, ho⟩ := h
  exact ⟨g, c, rfl, (ho.lt g rfl).2, Wire.lies_own ho⟩
theorem Mem.one (h : Mem w base x u) : u.oneCell' = true := by
  obtain ⟨g, c, rfl, _⟩ := h
  rfl
theorem Mem.apart (h : Mem w base x u) {e : TypeId} {vs : List Value} (he : e ≠ 5) (ho : w.ownsRow base e 1 v n vs) (hg : w.grownBy w' v.ownBlock) : Mem w' base x u := by
  obtain ⟨g, c, rfl, hr⟩ := h
  refine ⟨g, c, rfl, hr.1, ?_⟩
  rcases hr.2 with ⟨h0, _⟩ | ⟨g2, cap, cur, e2, hb, hcell, r⟩
  · cases h0
  · simp only [Value.slice.injEq, Option.some.injEq, Addr.mk.injEq, and_true, true_and] at e2
    obtain ⟨rfl, rfl⟩ := e2
    refine .inr ⟨g, c, cur, rfl, hb, ?_, r⟩
    rw [← hcell]
    refine hg.block g (Array.getElem?_eq_some_iff.1 hcell).1 (fun e3 => ?_)
    rcases ho.2 with ⟨rfl, _⟩ | ⟨g3, cap3, cur3, rfl, _, hcell3, _⟩
    · cases e3
    · simp only [Value.ownBlock, Option.some.injEq] at e3
      subst e3
      rw [hcell] at hcell3
      simp only [Option.some.injEq, Obj.cells.injEq] at hcell3
      exact he hcell3.2.1.symm
theorem OwnT.len (h : OwnT w base v n l) : l.length = n := by
  obtain ⟨vs, ho, h1, _⟩ := h
  have := ho.1
  omega
theorem OwnT.on (h : OwnT w base v n l) (hb : Below w.heap.size w w') : OwnT w' base v n l := by
  obtain ⟨vs, ho, h1, h2⟩ := h
  exact ⟨vs, own_below ho hb, h1, fun i x hx => by obtain ⟨u, hu, hm⟩ := h2 i x hx; exact ⟨u, hu, hm.on hb⟩⟩
theorem OwnT.more {base' : Nat} (h : OwnT w base v n l) (hb : base' ≤ base) : OwnT w base' v n l := by
  obtain ⟨vs, ho, h1, h2⟩ := h
  exact ⟨vs, own_more ho hb, h1, fun i x hx => by obtain ⟨u, hu, hm⟩ := h2 i x hx; exact ⟨u, hu, hm.more hb⟩⟩
theorem ownT_nil (w : World) (base : Nat) : OwnT w base (.slice none 0 0) 0 [] := ⟨[], World.ownsRow_nil _ _ _ _, rfl, fun i x hx => by simp at hx⟩
theorem OwnT.at_ (h : OwnT w base v n l) {i : Nat} (hx : l[i]? = some x) :
    ∃ g c g' c', v = .slice (some ⟨g, 0, none⟩) n c ∧ g < w.heap.size ∧ c ≤ maxLen ∧ w.cell? ⟨g, i, none⟩ = some (.slice (some ⟨g', 0, none⟩) x.length c') ∧ base ≤ g' ∧ g' < w.heap.size ∧ Lies w w.heap.size 1 (some ⟨g', 0, none⟩) x.length c' (x.map bv) := by
  obtain ⟨vs, ho, h1, h2⟩ := h
  obtain ⟨u, hu, hm⟩ := h2 i x hx
  have hi : i < n := by have := ho.1; have := (List.getElem?_eq_some_iff.1 hu).1; omega
  obtain ⟨g, c, rfl, _, hg, _, hc⟩ := Wire.own_form ho (by omega)
  have hm2 := hm
  obtain ⟨g', c', rfl, hr⟩ := hm2
  obtain ⟨g2, c2, e, hg', hl⟩ := hm.lies
  simp only [Value.slice.injEq, Option.some.injEq, Addr.mk.injEq, and_true, true_and] at e
  obtain ⟨rfl, rfl⟩ := e
  refine ⟨g, c, g', c', rfl, hg, hc, ?_, (hr.lt g' rfl).1, hg', hl⟩
  have := ho.cells (g := g) rfl i _ hu
  rwa [show (⟨g, 0, none⟩ : Addr).add i = ⟨g, i, none⟩ by unfold Addr.add; split <;> simp_all] at this
end
theorem txt_info : (Tryd.prog.info? 38).map (fun i => (i.zero, i.size, i.bytes)) = some (some (.slice none 0 0), 1, 24) := by kernel_rfl
theorem txt_ne : (38 : TypeId) ≠ 5 := by decide
section
variable {ops : Array Oper} {rest : List Oper} {o : Oper} {a : Act} {w : World} {Q : Exit → Act → World → Prop}
/-- A text is appended. -/
theorem append_t (hgd : o.guard = none) (s x : Operand) (ho : o.op = .call { callee := .builtin .append, args := #[s, x], argTypes := #[48, 48] })
    (base : Nat) (v : Value) (n : Nat) (l : List (List UInt8)) (hs : a.eval s = v) (hown : OwnT w base v n l) (g : Nat) (hx : a.eval x = .slice (some ⟨g, 0, none⟩) 1 1) (d : List UInt8) (u : Value) (hd : Mem w base d u) (hr : w.cell? ⟨g, 0, none⟩ = some u)
    (hn : n ≤ 1099511627776) (hbase : base ≤ w.heap.size)
    (h : ∀ v' w', OwnT w' base v' (n + 1) (l ++ [d]) → Below base w w' → wpList Tryd.prog ops Q rest (a.put o.dst v') w') : wpList Tryd.prog ops Q (o :: rest) a w := by
  obtain ⟨i, hi, hz, hsz, hby⟩ := info_parts txt_info
  obtain ⟨vs, hrow, hlen, hall⟩ := hown
  refine wpList_append_own _ hgd s x _ ho base 38 i (.slice none 0 0) 1 24 Tryd.underlying48 hi hz hsz hby rfl (by decide) v n _ hs hrow ⟨g, 0, none⟩ 1 1 [u] hx rfl (fun j z hz => ?_) (fun z hz => by rw [List.mem_singleton.1 hz]; exact hd.one) (by unfold maxLen; omega) (by omega) hbase ?_
  · cases j with
    | zero => cases hz; exact hr
    | succ j => simp at hz
  · intro v' w' ho' hg _
    refine h v' w' ⟨vs ++ [u], ho', by simp [hlen], fun i y hy => ?_⟩ ((Below.refl _ _).grown hg hbase (fun p hp => (hrow.lt p hp).1))
    by_cases hi : i < l.length
    · rw [List.getElem?_append_left hi] at hy
      obtain ⟨z, hz, hm⟩ := hall i y hy
      exact ⟨z, by rw [List.getElem?_append_left (by omega)]; exact hz, hm.apart txt_ne hrow hg⟩
    · rw [List.getElem?_append_right (by omega)] at hy
      have : i - l.length = 0 := by have := (List.getElem?_eq_some_iff.1 hy).1; simp at this; omega
      rw [this] at hy
      cases hy
      exact ⟨u, by rw [List.getElem?_append_right (by omega), show i - vs.length = 0 by omega]; rfl, hd.apart txt_ne hrow hg⟩
end
/-- A literal of one text is a row of one's own. -/
theorem own_litT {w : World} {x : List UInt8} {u : Value} {base : Nat} (h : Mem w base x u) (hb : base ≤ w.heap.size) : OwnT (w.alloc (.cells #[u] 38)) base (.slice (some ⟨w.heap.size, 0, none⟩) 1 1) 1 [x] :=
  ⟨[u], World.ownsRow_lit w #[u] 1 hb (by decide) (by simp), rfl, fun i y hy => by
    cases i with
    | zero => cases hy; exact ⟨u, rfl, h.on (Wire.b1 _ _)⟩
    | succ i => simp at hy⟩
theorem lit_cell (w : World) (u : Value) (t : TypeId) : (w.alloc (.cells #[u] t)).cell? ⟨w.heap.size, 0, none⟩ = some u := by
  have h := (Hash.arr_new w #[u] t).range 0 u rfl
  exact h

/-! ### The hash inputs of trees -/
theorem refInput_lit1 (t : Int) (d : List UInt8) (hd : d.length = 16) (w : World) :
    Calls Tryd.prog 52 #[.int .i64 t, .slice (some ⟨w.heap.size, 0, none⟩) 1 1] (w.alloc (.cells #[.string ⟨d.toArray⟩] 9)) (Wire.Made w (Hash.ofIn t [d]).length (Hash.ofIn t [d])) := by
  have hb := Wire.b1 w (.cells #[.string ⟨d.toArray⟩] 9)
  exact (Hash.input_any t [d] 1 1 _ _ (lit1 w d) (ofIn_one hd)).mono fun e w' ⟨g, c, h1, h2, h3⟩ => ⟨g, c, h1, own_more h2 hb.size, bcj hb h3⟩
theorem refInput_lit2 (t : Int) (a b : List UInt8) (ha : a.length = 16) (hb : b.length = 16) (w : World) :
    Calls Tryd.prog 52 #[.int .i64 t, .slice (some ⟨w.heap.size, 0, none⟩) 2 2] (w.alloc (.cells #[.string ⟨a.toArray⟩, .string ⟨b.toArray⟩] 9)) (Wire.Made w (Hash.ofIn t [a, b]).length (Hash.ofIn t [a, b])) := by
  have hb2 := Wire.b1 w (.cells #[.string ⟨a.toArray⟩, .string ⟨b.toArray⟩] 9)
  exact (Hash.input_any t [a, b] 2 2 _ _ (lit2 w a b) (ofIn_two ha hb)).mono fun e w' ⟨g, c, h1, h2, h3⟩ => ⟨g, c, h1, own_more h2 hb2.size, bcj hb2 h3⟩
theorem made_mem {w w' : World} {x : List UInt8} {e : Ending} (h : Wire.Made w x.length x e w') : ∃ g c, e = .returned (.slice (some ⟨g, 0, none⟩) x.length c) ∧ Mem w' w.heap.size x (.slice (some ⟨g, 0, none⟩) x.length c) ∧ Below w.heap.size w w' := by
  obtain ⟨g, c, rfl, ho, hb⟩ := h
  exact ⟨g, c, rfl, ⟨g, c, rfl, ho⟩, hb⟩
/-- The digest of an input. -/
theorem refShort_any (x : List UInt8) (n c : Nat) (A : Option Addr) (w : World) (hl : Lies w w.heap.size 1 A n c (x.map bv)) (hx : x.length ≤ 1000000) (ht : TT w) :
    Calls Tryd.prog 47 #[.slice A n c] w (GivesD (HH.sh x) w) := Hash.short_any x n c A w hl hx ht.b
theorem inputs_le {l : List (List UInt8)} : ∀ (r : List (List UInt8)) (n i : Nat) (d : List UInt8), Ok r → d.length = 16 → inputs HH r n i d = some l → (∀ x ∈ l, x.length ≤ 1000000) ∧ l.length = r.length + 1 := by
  intro r
  induction r generalizing l with
  | nil =>
    intro n i d _ hd h
    rw [inputs] at h
    split at h
    · cases h
      exact ⟨fun x hx => by rw [List.mem_singleton.1 hx]; exact ofIn_one hd, rfl⟩
    · cases h
  | cons e r ih =>
    intro n i d hr hd h
    have he := hr e (List.mem_cons_self ..)
    have hr2 : Ok r := fun x hx => hr x (List.mem_cons_of_mem _ hx)
    by_cases hn : n ≤ 1
    · rw [inputs, if_pos hn] at h; cases h
    by_cases hi : i < split n
    · obtain ⟨t, q, h1, rfl⟩ := inputs_low HH (by omega) hi h
      obtain ⟨h2, h3⟩ := ih _ _ _ hr2 hd h1
      refine ⟨fun x hx => ?_, by rw [List.length_cons, h3, List.length_cons]⟩
      rcases List.mem_cons.1 hx with rfl | hx
      · exact ofIn_two (sh_length _) he
      · exact h2 x hx
    · obtain ⟨t, q, h1, rfl⟩ := inputs_high HH (by omega) hi h
      obtain ⟨h2, h3⟩ := ih _ _ _ hr2 hd h1
      refine ⟨fun x hx => ?_, by rw [List.length_cons, h3, List.length_cons]⟩
      rcases List.mem_cons.1 hx with rfl | hx
      · exact ofIn_two he (sh_length _)
      · exact h2 x hx
end Mk
end Go.Proofs.YthpkeaafgabjiaaDoor

/- The reference of package merkle: Inputs. Conditions: the slice reads as a list of digests, the tables are laid. -/
namespace Go.Proofs.YthpkeaafgabjiaaDoor
open Go.RowKit
namespace Mk
open Wire (bv sv Lies)
open Hash (bcj)

/-- A row of texts of one's own and true, or anything and false. -/
def GivesI (o : Option (List (List UInt8))) (w : World) (e : Ending) (w' : World) : Prop :=
  ∃ v n, e = .returned (.tuple #[v, .bool o.isSome]) ∧ (∀ L, o = some L → OwnT w' w.heap.size v n L.reverse) ∧ Below w.heap.size w w'
/-- The digest that came in. -/
structure Ia (w W : World) (d : List UInt8) : Prop where
  o : Dg W w.heap.size d
  z : Below w.heap.size w W
theorem Ia.on {w W W' : World} {d : List UInt8} (h : Ia w W d) (hb : Below W.heap.size W W') : Ia w W' d := ⟨h.o.on hb, bcj h.z hb⟩
theorem ia_new (w : World) {d : List UInt8} (hd : d.length = 16) (t : TypeId) : Ia w (w.alloc (.cells (d.map bv).toArray t)) d := ⟨dg_new w hd t, Wire.b1 _ _⟩
/-- The digest that is read last lies behind it. -/
structure Ib (w W : World) (d x : List UInt8) : Prop where
  a : Ia w W d
  l : Dg W (w.heap.size + 1) x
theorem Ib.on {w W W' : World} {d x : List UInt8} (h : Ib w W d x) (hb : Below W.heap.size W W') : Ib w W' d x := ⟨h.a.on hb, h.l.on hb⟩
theorem ib_room {w W : World} {d : List UInt8} (h : Ia w W d) (hs : W.heap.size = w.heap.size + 1) (t : TypeId) : Ib w (W.alloc (.cells #[.int .u8 0, .int .u8 0, .int .u8 0, .int .u8 0, .int .u8 0, .int .u8 0, .int .u8 0, .int .u8 0, .int .u8 0, .int .u8 0, .int .u8 0, .int .u8 0, .int .u8 0, .int .u8 0, .int .u8 0, .int .u8 0] t)) d zero := by
  have h1 : Dg (W.alloc (.cells #[.int .u8 0, .int .u8 0, .int .u8 0, .int .u8 0, .int .u8 0, .int .u8 0, .int .u8 0, .int .u8 0, .int .u8 0, .int .u8 0, .int .u8 0, .int .u8 0, .int .u8 0, .int .u8 0, .int .u8 0, .int .u8 0] t)) W.heap.size zero := dg_zero W t
  rw [hs] at h1
  exact ⟨h.on (Wire.b1 _ _), h1⟩
theorem Ib.put {w W : World} {d y x : List UInt8} (h : Ib w W d y) (hx : x.length = 16) : Ib w (W.setCells (w.heap.size + 1) 0 (x.map bv)) d x :=
  ⟨⟨h.a.o.aside (by omega) _, h.a.z.trans (Hash.below_cells (B := w.heap.size) (by omega) _ _ _)⟩, h.l.put hx⟩
/-- And the row of the inputs before. -/
structure Ic (w W : World) (d x : List UInt8) (v : Value) (n : Nat) (L : List (List UInt8)) : Prop where
  b : Ib w W d x
  own : OwnT W w.heap.size v n L
theorem Ic.on {w W W' : World} {d x : List UInt8} {v : Value} {n : Nat} {L : List (List UInt8)} (h : Ic w W d x v n L) (hb : Below W.heap.size W W') : Ic w W' d x v n L := ⟨h.b.on hb, h.own.on hb⟩

set_option maxRecDepth 100000 in
set_option maxHeartbeats 1000000 in
theorem refInputs_no (d : List UInt8) (hd : d.length = 16) (n i : Int) (q c : Nat) (A : Option Addr) (w : World) (h : i < 0 ∨ n ≤ i) :
    Calls Tryd.prog 25 #[.int .i64 n, .int .i64 i, dv d, .slice A q c] w (GivesI none w) := by
  have Y := ia_new w hd 29
  have h2 : i < 0 ∨ (¬ i < 0 ∧ n ≤ i) := by omega
  clear h hd
  unfold dv
  rcases h2 with h | ⟨h, h3⟩
  all_goals
    go_enter Tryd.func25, Tryd.ntmps25
    go_wp2
    go_ret2
    exact ⟨_, 0, rfl, (fun L h => by cases h), Y.z⟩

set_option maxRecDepth 100000 in
set_option maxHeartbeats 1000000 in
theorem refInputs_one (d : List UInt8) (hd : d.length = 16) (q c : Nat) (A : Option Addr) (w : World) :
    Calls Tryd.prog 25 #[.int .i64 1, .int .i64 0, dv d, .slice A q c] w (GivesI (if q = 0 then some [HH.li d] else none) w) := by
  have Y := ia_new w hd 29
  have HD := Lib.hid hd
  have HT : Hid (∀ W, Calls Tryd.prog 53 #[dv d] W (Hash.GivesT d W)) := Lib.hid (fun W => Hash.text_any d W hd)
  have HI : Hid (∀ W, Calls Tryd.prog 52 #[.int .i64 1, .slice (some ⟨W.heap.size, 0, none⟩) 1 1] (W.alloc (.cells #[.string ⟨d.toArray⟩] 9)) (Wire.Made W (HH.li d).length (HH.li d))) := Lib.hid (fun W => refInput_lit1 1 d hd W)
  have hB : (if q = 0 then some [HH.li d] else none).isSome = ((q : Int) == 0) := by
    by_cases h : q = 0
    · subst h; rfl
    · rw [if_neg h, Bool.eq_iff_iff]; simp; omega
  have hR : ∀ L, (if q = 0 then some [HH.li d] else none) = some L → L.reverse = [HH.li d] := by
    intro L h
    split at h
    · cases h; rfl
    · cases h
  generalize (if q = 0 then some [HH.li d] else none) = R at *
  generalize HH.li d = X at *
  have HR := Lib.hid hR
  have HB := Lib.hid hB
  clear hd hB hR
  unfold dv
  go_enter Tryd.func25, Tryd.ntmps25
  go_wp2_with (first
    | (refine load_d 26 rfl rfl _ rfl w.heap.size 0 rfl d HD.out Y.o.range ?_)
    | (go_at_call 53; (with_reducible refine (HT.out _).mono ?_); rintro e w1 ⟨rfl, hb⟩; replace Y := Y.on hb; clear hb)
    | (go_at_call 52; (with_reducible refine (HI.out _).mono ?_); rintro e w2 h2; obtain ⟨g2, c2, rfl, hm, hb⟩ := made_mem h2; have HM := Lib.hid (hm.more Y.z.size); replace Y := Y.on hb; clear hb hm h2))
  all_goals
    go_ret2
    unfold GivesI
    rw [HB.out]
    refine ⟨_, 1, rfl, (fun L h => ?_), bcj Y.z (Wire.b1 _ _)⟩
    rw [HR.out L h]
    exact own_litT HM.out Y.z.size

set_option maxRecDepth 100000 in
set_option maxHeartbeats 1000000 in
theorem refInputs_short (d : List UInt8) (hd : d.length = 16) (n i c : Nat) (hn : 2 ≤ n) (hi : i < n) (A : Option Addr) (w : World) :
    Calls Tryd.prog 25 #[.int .i64 (n : Int), .int .i64 (i : Int), dv d, .slice A 0 c] w (GivesI none w) := by
  have Y := ia_new w hd 29
  have z0 : ¬ (i : Int) < 0 := by omega
  have z1 : ¬ (n : Int) ≤ (i : Int) := by omega
  have z2 : ((n : Int) == 1) = false := by simp; omega
  have z3 : ¬ (n : Int) = 1 := by omega
  clear hd hn hi
  unfold dv
  go_enter Tryd.func25, Tryd.ntmps25
  go_wp2
  go_ret2
  exact ⟨_, 0, rfl, (fun L h => by cases h), Y.z⟩
end Mk
end Go.Proofs.YthpkeaafgabjiaaDoor

/- The reference of package merkle: Inputs, Verify. Conditions: the slice reads as a list of digests, the tables are laid. -/
namespace Go.Proofs.YthpkeaafgabjiaaDoor
open Go.RowKit
namespace Mk
open Wire (bv sv Lies)
open Hash (bcj)

/-- And the row's world is not far behind. -/
structure Pj (w w5 W : World) (d x : List UInt8) (v : Value) (n : Nat) (L : List (List UInt8)) : Prop where
  c : Ic w W d x v n L
  far : Below w5.heap.size w5 W
theorem Pj.on {w w5 W W' : World} {d x : List UInt8} {v : Value} {n : Nat} {L : List (List UInt8)} (h : Pj w w5 W d x v n L) (hb : Below W.heap.size W W') : Pj w w5 W' d x v n L := ⟨h.c.on hb, bcj h.far hb⟩

theorem le40 {n : Nat} (h : n ≤ 1000000) : n + 1 ≤ 1099511627776 := Nat.le_trans (Nat.succ_le_succ h) (by decide)

set_option maxRecDepth 100000 in
set_option maxHeartbeats 2000000 in
theorem refInputs_any : ∀ (q : Nat) (p : List (List UInt8)) (n i c : Nat) (A : Option Addr) (d : List UInt8) (w : World), q ≤ 1000000 → LiesD w w.heap.size A q c p → TT w → i < n → n ≤ 9223372036854775807 → d.length = 16 →
    Calls Tryd.prog 25 #[.int .i64 (n : Int), .int .i64 (i : Int), dv d, .slice A q c] w (GivesI (inputs HH p.reverse n i d) w) := by
  intro q
  induction q with
  | zero =>
    intro p n i c A d w _ hl ht hi hn hd
    obtain rfl := List.eq_nil_of_length_eq_zero hl.len
    show Calls _ _ _ _ (GivesI (inputs HH [] n i d) w)
    rw [inputs]
    by_cases h : n = 1
    · subst h
      obtain rfl : i = 0 := by omega
      exact refInputs_one d hd 0 c A w
    · rw [if_neg h]
      exact refInputs_short d hd n i c (by omega) hi A w
  | succ q ih =>
    intro p n i c A d w hq hl ht hi hn hd
    have HQ : Hid (q ≤ 1000000) := Lib.hid (Nat.le_of_succ_le hq)
    clear hq
    have hln := hl.len
    have hmost : c ≤ 9223372036854775807 := by have := hl.lies.most; unfold maxLen at this; omega
    have hle := hl.lies.le
    obtain ⟨r, x, rfl⟩ : ∃ r x, p = r ++ [x] := ⟨p.dropLast, p.getLast (by intro h; rw [h] at hln; cases hln), (List.dropLast_concat_getLast _).symm⟩
    have hrl : r.length = q := by rw [List.length_append, List.length_singleton] at hln; omega
    obtain ⟨b, o, rfl, hbb, hrx⟩ := hl.row (j := q) (d := x) (by rw [List.getElem?_append_right (by omega), hrl, Nat.sub_self]; rfl)
    have hR := hl.take (k := q) (by omega)
    rw [List.take_left' hrl] at hR
    have hxl : x.length = 16 := hl.ok x (by simp)
    have hok := hR.ok
    rw [List.reverse_append, List.reverse_singleton, List.singleton_append]
    by_cases h1 : n = 1
    · subst h1
      obtain rfl : i = 0 := by omega
      rw [inputs, if_pos (by omega)]
      have := refInputs_one d hd (q + 1) c (some ⟨b, o, none⟩) w
      rwa [if_neg (by omega)] at this
    have HD := Lib.hid hd
    have HX := Lib.hid hxl
    have HRX : Hid (∀ W, Below w.heap.size w W → W.rangeAt b (o + q * 16) (x.map bv)) := Lib.hid (fun W h j u hu => (h.cell (by show b < w.heap.size; exact hbb)).trans (hrx j u hu))
    have Y := ia_new w hd 29
    have e1 : (((q + 1 : Nat) : Int) == 0) = false := by simp; omega
    have e2 : ¬ ((q + 1 : Nat) : Int) = 0 := by omega
    have e3 : ((q + 1 : Nat) : Int) - 1 = (q : Int) := by omega
    have x0 : ¬ (i : Int) < 0 := by omega
    have x1 : ¬ (n : Int) ≤ (i : Int) := by omega
    have x3 : ¬ (n : Int) = 1 := by omega
    have x2 : ((n : Int) == 1) = false := by simpa using x3
    have HS : Hid (∀ A : Obj, (w.alloc A).heap.size = w.heap.size + 1) := Lib.hid (fun A => by rw [World.size_alloc])
    have h2 : 2 ≤ n := by omega
    have e4 : wrap64 (q : Int) = (q : Int) := by simp only [wrap64]; omega
    have hs1 := split_lt h2
    have hs2 := split_pos n
    have HSP := Lib.hid (fun W => refSplit_any n h2 hn W)
    have HTT := Lib.hid ht
    by_cases hlow : i < split n
    · skip
      have hne : ¬ n ≤ 1 := by omega
      rw [inputs, if_neg hne, if_pos hlow]
      clear hne
      generalize split n = k at *
      have z0 : (i : Int) < (k : Int) := by omega
      have HPA : Hid (∀ W, Below w.heap.size w W → Calls Tryd.prog 25 #[.int .i64 (k : Int), .int .i64 (i : Int), dv d, .slice (some ⟨b, o, none⟩) q c] W (GivesI (inputs HH r.reverse k i d) W)) :=
        Lib.hid (fun W h => ih r k i c _ d W HQ.out ((hR.below h).more h.size) (HTT.out.on h) hlow (by omega) hd)
      have hinl := fun L (h : inputs HH r.reverse k i d = some L) => inputs_le r.reverse k i d (fun e he => hok e (List.mem_reverse.1 he)) hd h
      have hine := fun L (h : inputs HH r.reverse k i d = some L) => inputs_ne HH h
      generalize inputs HH r.reverse k i d = R at *
      have HTT2 := HTT
      
      clear ih hl ht hR hln hrx hd hxl hok
      unfold dv
      cases R with
      | none =>
        show Calls _ _ _ _ (GivesI none w)
        clear hinl hine
        go_enter Tryd.func25, Tryd.ntmps25
        go_wp2_with (first
          | (refine load_d 42 rfl rfl _ rfl b (o + q * 16) rfl x HX.out (HRX.out _ Y.z) ?_)
          | (refine store_d (.tmp 10) (.tmp 42) rfl rfl (w.heap.size + 1) 0 rfl x rfl HX.out (ib_room Y (HS.out _) _).l.there ?_; refine Hash.gen_world (Pq := fun W => Ib w W d x) (G := fun W => wpList _ _ _ _ _ W) ((ib_room Y (HS.out _) _).put HX.out) ?_; clear Y; intro W2 Y)
          | (go_at_call 36; (with_reducible refine (HSP.out _).mono ?_); rintro e w3 ⟨rfl, hb⟩; replace Y := Y.on hb; clear hb)
          | (refine load_d 56 rfl rfl _ rfl w.heap.size 0 rfl d HD.out Y.a.o.range ?_)
          | (go_at_call 25; (with_reducible refine (HPA.out _ Y.a.z).mono ?_); rintro e w5 ⟨v4, m4, rfl, -, hb⟩; replace Y := Y.on hb; clear hb))
        go_ret2
        exact ⟨_, 0, rfl, (fun L h => by cases h), Y.a.z⟩
      | some L =>
        obtain ⟨t, qs, rfl⟩ := hine _ rfl
        obtain ⟨hlt, hll⟩ := hinl _ rfl
        have htl := hlt t (by simp)
        have hql : qs.length = q := by rw [List.length_reverse, hrl, List.length_cons] at hll; omega
        have HQL : Hid (qs.length ≤ 1000000) := Lib.hid (by rw [hql]; exact HQ.out)
        clear hql
        show Calls _ _ _ _ (GivesI (some (HH.ni (HH.sh t) x :: t :: qs)) w)
        have HDL := Lib.hid (sh_length t)
        have HSH0 := Lib.hid (fun W g2 c5 (h : Lies W W.heap.size 1 (some ⟨g2, 0, none⟩) t.length c5 (t.map bv)) hT => refShort_any t t.length c5 _ W h htl hT)
        generalize HH.sh t = D at *
        have HTX : Hid (∀ W, Calls Tryd.prog 53 #[dv D] W (Hash.GivesT D W)) := Lib.hid (fun W => Hash.text_any D W HDL.out)
        have HTY : Hid (∀ W, Calls Tryd.prog 53 #[.agg (x.map bv).toArray] W (Hash.GivesT x W)) := Lib.hid (fun W => Hash.text_any x W HX.out)
        have HI : Hid (∀ W, Calls Tryd.prog 52 #[.int .i64 2, .slice (some ⟨W.heap.size, 0, none⟩) 2 2] (W.alloc (.cells #[.string ⟨D.toArray⟩, .string ⟨x.toArray⟩] 9)) (Wire.Made W (HH.ni D x).length (HH.ni D x))) := Lib.hid (fun W => refInput_lit2 2 D x HDL.out HX.out W)
        generalize HH.ni D x = X at *
        clear hinl hine hlt hll htl hrl
        go_enter Tryd.func25, Tryd.ntmps25
        go_wp2_with (first
          | (refine load_d 42 rfl rfl _ rfl b (o + q * 16) rfl x HX.out (HRX.out _ Y.z) ?_)
          | (refine store_d (.tmp 10) (.tmp 42) rfl rfl (w.heap.size + 1) 0 rfl x rfl HX.out (ib_room Y (HS.out _) _).l.there ?_; refine Hash.gen_world (Pq := fun W => Ib w W d x) (G := fun W => wpList _ _ _ _ _ W) ((ib_room Y (HS.out _) _).put HX.out) ?_; clear Y; intro W2 Y)
          | (go_at_call 36; (with_reducible refine (HSP.out _).mono ?_); rintro e w3 ⟨rfl, hb⟩; replace Y := Y.on hb; clear hb)
          | (refine load_d 56 rfl rfl _ rfl w.heap.size 0 rfl d HD.out Y.a.o.range ?_)
          | (go_at_call 25; (with_reducible refine (HPA.out _ Y.a.z).mono ?_); rintro e w5 ⟨v4, m4, rfl, hown, hb⟩; replace hown := (hown _ rfl).more Y.a.z.size; replace Y := Y.on hb; clear hb; obtain ⟨g, c4, g2, c5, rfl, hg, hc4, hcell, hg0, hg2, hlies⟩ := hown.at_ (i := qs.length) (x := t) (by simp); obtain rfl : m4 = qs.length + 1 := by have := hown.len; simp at this; omega))
        generalize hL0 : (t :: qs).reverse = L0 at hown
        have HL0 := Lib.hid hL0
        clear hL0
        have y5 : ((qs.length + 1 : Nat) : Int) - 1 = (qs.length : Int) := by omega
        have y6 : IntKind.i64.wrap (qs.length : Int) = (qs.length : Int) := IntWalk.i64_in _ (by have := HQL.out; omega)
        have HCL : Hid (∀ W, Ic w W d x (.slice (some ⟨g, 0, none⟩) (qs.length + 1) c4) (qs.length + 1) L0 ∧ Below w5.heap.size w5 W → W.cell? ⟨g, qs.length, none⟩ = some (.slice (some ⟨g2, 0, none⟩) t.length c5)) := Lib.hid (fun W h => (h.2.cell (p := ⟨g, qs.length, none⟩) hg).trans hcell)
        have HC0 : Pj w w5 w5 d x (.slice (some ⟨g, 0, none⟩) (qs.length + 1) c4) (qs.length + 1) L0 := ⟨⟨Y, hown⟩, Below.refl _ _⟩
        have HSH : Hid (∀ W, Pj w w5 W d x (.slice (some ⟨g, 0, none⟩) (qs.length + 1) c4) (qs.length + 1) L0 → Calls Tryd.prog 47 #[.slice (some ⟨g2, 0, none⟩) t.length c5] W (GivesD D W)) := Lib.hid (fun W h => HSH0.out W g2 c5 (((hlies.below h.far).more h.far.size)) (HTT.out.on h.c.b.a.z))
        have HCL2 : Hid (∀ W, Pj w w5 W d x (.slice (some ⟨g, 0, none⟩) (qs.length + 1) c4) (qs.length + 1) L0 → W.cell? ⟨g, qs.length, none⟩ = some (.slice (some ⟨g2, 0, none⟩) t.length c5)) := Lib.hid (fun W h => HCL.out W ⟨h.c, h.far⟩)
        clear HCL
        have HCL := HCL2
        clear HCL2 hcell hlies hown Y hg hg2 hg0
        refine QTail.moved (C := fun W => Pj w w5 W d x (.slice (some ⟨g, 0, none⟩) (qs.length + 1) c4) (qs.length + 1) L0) 11 (.tmp 13) rfl rfl (by kernel_rfl) (by kernel_rfl) (HC0.on (Hash.belowD _)) (fun _ _ _ _ h => h) ?_
        (refine wpQuiet_step (fun K hK => ?_); go_simp; (first | refine hK _ ?_ | refine ⟨_, fun _ _ => rfl, hK _ ?_⟩); clear hK K)
        (refine wpQuiet_step (fun K hK => ?_); go_simp; (first | refine hK _ ?_ | refine ⟨_, fun _ _ => rfl, hK _ ?_⟩); clear hK K)
        (refine wpQuiet_step (fun K hK => ?_); go_simp; (first | refine hK _ ?_ | refine ⟨_, fun _ _ => rfl, hK _ ?_⟩); clear hK K)
        (refine wpQuiet_step (fun K hK => ?_); go_simp; (first | refine hK _ ?_ | refine ⟨_, fun _ _ => rfl, hK _ ?_⟩); clear hK K)
        (refine wpQuiet_step (fun K hK => ?_); go_simp; refine ⟨.pointer (some ⟨g, qs.length, none⟩), fun W hW => ?_, hK _ ?_⟩; (first | (rw [if_pos (by omega)]; exact ⟨rfl, rfl⟩) | (rw [if_pos (by omega)]; rfl) | exact ⟨rfl, rfl⟩ | rfl); clear hK K)
        (refine wpQuiet_step (fun K hK => ?_); go_simp; refine ⟨(.slice (some ⟨g2, 0, none⟩) t.length c5), fun W hW => ?_, hK _ ?_⟩; (first | (rw [HCL.out W hW]; exact ⟨rfl, rfl⟩) | (rw [HCL.out W hW]; rfl)); clear hK K)
        (refine wpQuiet_step (fun K hK => ?_); go_simp; refine ⟨_, fun W hW => (HSH.out W hW).mono fun e w' ⟨he, hb⟩ => ⟨he, hW.on hb⟩, hK _ ?_⟩; clear hK K)
        (refine wpQuiet_step (fun K hK => ?_); go_simp; refine ⟨_, fun W hW => (HTX.out W).mono fun e w' ⟨he, hb⟩ => ⟨he, hW.on hb⟩, hK _ ?_⟩; clear hK K)
        refine QTail.loadC (by rfl) 29 (.tmp 10) rfl (w.heap.size + 1) 0 rfl (x.map bv) _ (fun W h => h.c.b.l.range) und_d rfl (info_d HX.out) ?_
        (refine wpQuiet_step (fun K hK => ?_); go_simp; refine ⟨_, fun W hW => (HTY.out W).mono fun e w' ⟨he, hb⟩ => ⟨he, hW.on hb⟩, hK _ ?_⟩; clear hK K)
        refine wpQuiet_nil ?_
        intro w7 Y
        simp only [List.drop_succ_cons, List.drop_zero]
        have HO := Lib.hid Y.c.own
        have Z := Y.c.b.a.z
        clear Y HC0
        go_wp2_with (first
          | (go_at_call 52; (with_reducible refine (HI.out _).mono ?_); rintro e w8 h2; obtain ⟨g6, c6, rfl, hm, hb⟩ := made_mem h2; have HM := Lib.hid (hm.more Z.size); replace HO := Lib.hid (HO.out.on hb); replace Z := bcj Z hb; clear hb hm h2)
          | (at_builtin; refine append_t rfl _ _ rfl w.heap.size (.slice (some ⟨g, 0, none⟩) (qs.length + 1) c4) (qs.length + 1) _ rfl (HO.out.on (Wire.b1 _ _)) w8.heap.size rfl X _ (HM.out.on (Wire.b1 _ _)) (lit_cell w8 _ _) (le40 HQL.out) (bcj Z (Wire.b1 _ _)).size ?_; intro v6 w6 ho6 hb6; have HO6 := Lib.hid ho6; replace Z := (bcj Z (Wire.b1 _ _)).trans hb6; clear ho6 hb6))
        go_ret2
        exact ⟨_, _, rfl, (fun L h => by cases h; rw [List.reverse_cons, HL0.out]; exact HO6.out), Z⟩
    · skip
      have hne : ¬ n ≤ 1 := by omega
      rw [inputs, if_neg hne, if_neg hlow]
      clear hne
      generalize split n = k at *
      have z0 : ¬ (i : Int) < (k : Int) := by omega
      have h4 : i - k < n - k := by omega
      have h5 : n - k ≤ 9223372036854775807 := by omega
      have z6 : (i : Int) - (k : Int) = ((i - k : Nat) : Int) := by omega
      have z8 : (n : Int) - (k : Int) = ((n - k : Nat) : Int) := by omega
      have HPA : Hid (∀ W, Below w.heap.size w W → Calls Tryd.prog 25 #[.int .i64 ((n - k : Nat) : Int), .int .i64 ((i - k : Nat) : Int), dv d, .slice (some ⟨b, o, none⟩) q c] W (GivesI (inputs HH r.reverse (n - k) (i - k) d) W)) :=
        Lib.hid (fun W h => ih r (n - k) (i - k) c _ d W HQ.out ((hR.below h).more h.size) (HTT.out.on h) h4 h5 hd)
      have hinl := fun L (h : inputs HH r.reverse (n - k) (i - k) d = some L) => inputs_le r.reverse (n - k) (i - k) d (fun e he => hok e (List.mem_reverse.1 he)) hd h
      have hine := fun L (h : inputs HH r.reverse (n - k) (i - k) d = some L) => inputs_ne HH h
      generalize inputs HH r.reverse (n - k) (i - k) d = R at *
      have HTT2 := HTT
      clear h4 h5
      clear ih hl ht hR hln hrx hd hxl hok
      unfold dv
      cases R with
      | none =>
        show Calls _ _ _ _ (GivesI none w)
        clear hinl hine
        go_enter Tryd.func25, Tryd.ntmps25
        go_wp2_with (first
          | (refine load_d 42 rfl rfl _ rfl b (o + q * 16) rfl x HX.out (HRX.out _ Y.z) ?_)
          | (refine store_d (.tmp 10) (.tmp 42) rfl rfl (w.heap.size + 1) 0 rfl x rfl HX.out (ib_room Y (HS.out _) _).l.there ?_; refine Hash.gen_world (Pq := fun W => Ib w W d x) (G := fun W => wpList _ _ _ _ _ W) ((ib_room Y (HS.out _) _).put HX.out) ?_; clear Y; intro W2 Y)
          | (go_at_call 36; (with_reducible refine (HSP.out _).mono ?_); rintro e w3 ⟨rfl, hb⟩; replace Y := Y.on hb; clear hb)
          | (refine load_d 85 rfl rfl _ rfl w.heap.size 0 rfl d HD.out Y.a.o.range ?_)
          | (go_at_call 25; (with_reducible refine (HPA.out _ Y.a.z).mono ?_); rintro e w5 ⟨v4, m4, rfl, -, hb⟩; replace Y := Y.on hb; clear hb))
        go_ret2
        exact ⟨_, 0, rfl, (fun L h => by cases h), Y.a.z⟩
      | some L =>
        obtain ⟨t, qs, rfl⟩ := hine _ rfl
        obtain ⟨hlt, hll⟩ := hinl _ rfl
        have htl := hlt t (by simp)
        have hql : qs.length = q := by rw [List.length_reverse, hrl, List.length_cons] at hll; omega
        have HQL : Hid (qs.length ≤ 1000000) := Lib.hid (by rw [hql]; exact HQ.out)
        clear hql
        show Calls _ _ _ _ (GivesI (some (HH.ni x (HH.sh t) :: t :: qs)) w)
        have HDL := Lib.hid (sh_length t)
        have HSH0 := Lib.hid (fun W g2 c5 (h : Lies W W.heap.size 1 (some ⟨g2, 0, none⟩) t.length c5 (t.map bv)) hT => refShort_any t t.length c5 _ W h htl hT)
        generalize HH.sh t = D at *
        have HTX : Hid (∀ W, Calls Tryd.prog 53 #[dv D] W (Hash.GivesT D W)) := Lib.hid (fun W => Hash.text_any D W HDL.out)
        have HTY : Hid (∀ W, Calls Tryd.prog 53 #[.agg (x.map bv).toArray] W (Hash.GivesT x W)) := Lib.hid (fun W => Hash.text_any x W HX.out)
        have HI : Hid (∀ W, Calls Tryd.prog 52 #[.int .i64 2, .slice (some ⟨W.heap.size, 0, none⟩) 2 2] (W.alloc (.cells #[.string ⟨x.toArray⟩, .string ⟨D.toArray⟩] 9)) (Wire.Made W (HH.ni x D).length (HH.ni x D))) := Lib.hid (fun W => refInput_lit2 2 x D HX.out HDL.out W)
        generalize HH.ni x D = X at *
        clear hinl hine hlt hll htl hrl
        go_enter Tryd.func25, Tryd.ntmps25
        go_wp2_with (first
          | (refine load_d 42 rfl rfl _ rfl b (o + q * 16) rfl x HX.out (HRX.out _ Y.z) ?_)
          | (refine store_d (.tmp 10) (.tmp 42) rfl rfl (w.heap.size + 1) 0 rfl x rfl HX.out (ib_room Y (HS.out _) _).l.there ?_; refine Hash.gen_world (Pq := fun W => Ib w W d x) (G := fun W => wpList _ _ _ _ _ W) ((ib_room Y (HS.out _) _).put HX.out) ?_; clear Y; intro W2 Y)
          | (go_at_call 36; (with_reducible refine (HSP.out _).mono ?_); rintro e w3 ⟨rfl, hb⟩; replace Y := Y.on hb; clear hb)
          | (refine load_d 85 rfl rfl _ rfl w.heap.size 0 rfl d HD.out Y.a.o.range ?_)
          | (go_at_call 25; (with_reducible refine (HPA.out _ Y.a.z).mono ?_); rintro e w5 ⟨v4, m4, rfl, hown, hb⟩; replace hown := (hown _ rfl).more Y.a.z.size; replace Y := Y.on hb; clear hb; obtain ⟨g, c4, g2, c5, rfl, hg, hc4, hcell, hg0, hg2, hlies⟩ := hown.at_ (i := qs.length) (x := t) (by simp); obtain rfl : m4 = qs.length + 1 := by have := hown.len; simp at this; omega))
        generalize hL0 : (t :: qs).reverse = L0 at hown
        have HL0 := Lib.hid hL0
        clear hL0
        have y5 : ((qs.length + 1 : Nat) : Int) - 1 = (qs.length : Int) := by omega
        have y6 : IntKind.i64.wrap (qs.length : Int) = (qs.length : Int) := IntWalk.i64_in _ (by have := HQL.out; omega)
        have HCL : Hid (∀ W, Ic w W d x (.slice (some ⟨g, 0, none⟩) (qs.length + 1) c4) (qs.length + 1) L0 ∧ Below w5.heap.size w5 W → W.cell? ⟨g, qs.length, none⟩ = some (.slice (some ⟨g2, 0, none⟩) t.length c5)) := Lib.hid (fun W h => (h.2.cell (p := ⟨g, qs.length, none⟩) hg).trans hcell)
        have HC0 : Pj w w5 w5 d x (.slice (some ⟨g, 0, none⟩) (qs.length + 1) c4) (qs.length + 1) L0 := ⟨⟨Y, hown⟩, Below.refl _ _⟩
        have HSH : Hid (∀ W, Pj w w5 W d x (.slice (some ⟨g, 0, none⟩) (qs.length + 1) c4) (qs.length + 1) L0 → Calls Tryd.prog 47 #[.slice (some ⟨g2, 0, none⟩) t.length c5] W (GivesD D W)) := Lib.hid (fun W h => HSH0.out W g2 c5 (((hlies.below h.far).more h.far.size)) (HTT.out.on h.c.b.a.z))
        have HCL2 : Hid (∀ W, Pj w w5 W d x (.slice (some ⟨g, 0, none⟩) (qs.length + 1) c4) (qs.length + 1) L0 → W.cell? ⟨g, qs.length, none⟩ = some (.slice (some ⟨g2, 0, none⟩) t.length c5)) := Lib.hid (fun W h => HCL.out W ⟨h.c, h.far⟩)
        clear HCL
        have HCL := HCL2
        clear HCL2 hcell hlies hown Y hg hg2 hg0
        refine QTail.moved (C := fun W => Pj w w5 W d x (.slice (some ⟨g, 0, none⟩) (qs.length + 1) c4) (qs.length + 1) L0) 11 (.tmp 15) rfl rfl (by kernel_rfl) (by kernel_rfl) (HC0.on (Hash.belowD _)) (fun _ _ _ _ h => h) ?_
        refine QTail.loadC (by rfl) 29 (.tmp 10) rfl (w.heap.size + 1) 0 rfl (x.map bv) _ (fun W h => h.c.b.l.range) und_d rfl (info_d HX.out) ?_
        (refine wpQuiet_step (fun K hK => ?_); go_simp; refine ⟨_, fun W hW => (HTY.out W).mono fun e w' ⟨he, hb⟩ => ⟨he, hW.on hb⟩, hK _ ?_⟩; clear hK K)
        (refine wpQuiet_step (fun K hK => ?_); go_simp; (first | refine hK _ ?_ | refine ⟨_, fun _ _ => rfl, hK _ ?_⟩); clear hK K)
        (refine wpQuiet_step (fun K hK => ?_); go_simp; (first | refine hK _ ?_ | refine ⟨_, fun _ _ => rfl, hK _ ?_⟩); clear hK K)
        (refine wpQuiet_step (fun K hK => ?_); go_simp; (first | refine hK _ ?_ | refine ⟨_, fun _ _ => rfl, hK _ ?_⟩); clear hK K)
        (refine wpQuiet_step (fun K hK => ?_); go_simp; (first | refine hK _ ?_ | refine ⟨_, fun _ _ => rfl, hK _ ?_⟩); clear hK K)
        (refine wpQuiet_step (fun K hK => ?_); go_simp; refine ⟨.pointer (some ⟨g, qs.length, none⟩), fun W hW => ?_, hK _ ?_⟩; (first | (rw [if_pos (by omega)]; exact ⟨rfl, rfl⟩) | (rw [if_pos (by omega)]; rfl) | exact ⟨rfl, rfl⟩ | rfl); clear hK K)
        (refine wpQuiet_step (fun K hK => ?_); go_simp; refine ⟨(.slice (some ⟨g2, 0, none⟩) t.length c5), fun W hW => ?_, hK _ ?_⟩; (first | (rw [HCL.out W hW]; exact ⟨rfl, rfl⟩) | (rw [HCL.out W hW]; rfl)); clear hK K)
        (refine wpQuiet_step (fun K hK => ?_); go_simp; refine ⟨_, fun W hW => (HSH.out W hW).mono fun e w' ⟨he, hb⟩ => ⟨he, hW.on hb⟩, hK _ ?_⟩; clear hK K)
        (refine wpQuiet_step (fun K hK => ?_); go_simp; refine ⟨_, fun W hW => (HTX.out W).mono fun e w' ⟨he, hb⟩ => ⟨he, hW.on hb⟩, hK _ ?_⟩; clear hK K)
        refine wpQuiet_nil ?_
        intro w7 Y
        simp only [List.drop_succ_cons, List.drop_zero]
        have HO := Lib.hid Y.c.own
        have Z := Y.c.b.a.z
        clear Y HC0
        go_wp2_with (first
          | (go_at_call 52; (with_reducible refine (HI.out _).mono ?_); rintro e w8 h2; obtain ⟨g6, c6, rfl, hm, hb⟩ := made_mem h2; have HM := Lib.hid (hm.more Z.size); replace HO := Lib.hid (HO.out.on hb); replace Z := bcj Z hb; clear hb hm h2)
          | (at_builtin; refine append_t rfl _ _ rfl w.heap.size (.slice (some ⟨g, 0, none⟩) (qs.length + 1) c4) (qs.length + 1) _ rfl (HO.out.on (Wire.b1 _ _)) w8.heap.size rfl X _ (HM.out.on (Wire.b1 _ _)) (lit_cell w8 _ _) (le40 HQL.out) (bcj Z (Wire.b1 _ _)).size ?_; intro v6 w6 ho6 hb6; have HO6 := Lib.hid ho6; replace Z := (bcj Z (Wire.b1 _ _)).trans hb6; clear ho6 hb6))
        go_ret2
        exact ⟨_, _, rfl, (fun L h => by cases h; rw [List.reverse_cons, HL0.out]; exact HO6.out), Z⟩
end Mk
end Go.Proofs.YthpkeaafgabjiaaDoor

/- The reference of package merkle: Verify. Conditions: the slice reads as a list of digests, the tables are laid. -/
namespace Go.Proofs.YthpkeaafgabjiaaDoor
open Go.RowKit
namespace Mk
open Wire (bv sv Lies)
open Hash (bcj)

/-- What the inputs of a proof say of a root. -/
def verd (o : Option (List (List UInt8))) (root : List UInt8) : Bool :=
  match o with
  | some (t :: _) => HH.sh t == root
  | _ => false
/-- The inputs that Inputs answers. -/
structure Inp (o : Option (List (List UInt8))) : Prop where
  ne : ∀ L, o = some L → ∃ t q, L = t :: q
  le : ∀ L, o = some L → ∀ x ∈ L, x.length ≤ 1000000
  len : ∀ L, o = some L → L.length ≤ 1000001
theorem inp_none : Inp none := ⟨fun _ h => (by cases h), fun _ h => (by cases h), fun _ h => (by cases h)⟩
theorem inp_of {r : List (List UInt8)} {n i : Nat} {d : List UInt8} (hr : Ok r) (hd : d.length = 16) (hq : r.length ≤ 1000000) : Inp (inputs HH r n i d) :=
  ⟨fun _ h => inputs_ne HH h, fun _ h => (inputs_le r n i d hr hd h).1, fun _ h => by rw [(inputs_le r n i d hr hd h).2]; exact Nat.succ_le_succ hq⟩
structure Vi (w w5 W : World) (x y : List UInt8) : Prop where
  v : Vb w W x y
  far : Below w5.heap.size w5 W
theorem Vi.on {w w5 W W' : World} {x y : List UInt8} (h : Vi w w5 W x y) (hb : Below W.heap.size W W') : Vi w w5 W' x y := ⟨h.v.on hb, bcj h.far hb⟩

set_option maxRecDepth 100000 in
set_option maxHeartbeats 2000000 in
theorem refVerify_of (root d : List UInt8) (hr : root.length = 16) (hd : d.length = 16) (n i : Int) (q c : Nat) (A : Option Addr) (w : World) (ht : TT w) (o : Option (List (List UInt8))) (ho : Inp o)
    (hin : ∀ W, Below w.heap.size w W → Calls Tryd.prog 25 #[.int .i64 n, .int .i64 i, dv d, .slice A q c] W (GivesI o W)) :
    Calls Tryd.prog 19 #[dv root, .int .i64 n, .int .i64 i, dv d, .slice A q c] w (GivesT (verd o root) w) := by
  have Y := vb_new w hr hd 29 29
  have HTT := Lib.hid ht
  have HR := Lib.hid hr
  have HD := Lib.hid hd
  have HPA := Lib.hid hin
  have HS : Hid (∀ A : Obj, (w.alloc A).heap.size = w.heap.size + 1) := Lib.hid (fun A => by rw [World.size_alloc])
  cases o with
  | none =>
    show Calls _ _ _ _ (GivesT false w)
    clear hin ht hr hd ho
    unfold dv
    go_enter Tryd.func19, Tryd.ntmps19
    go_wp2_with (first
      | (refine load_d 16 rfl rfl _ rfl (w.heap.size + 1) 0 rfl d HD.out Y.b.range ?_)
      | (go_at_call 25; (with_reducible refine (HPA.out _ Y.z).mono ?_); rintro e w5 ⟨v4, m4, rfl, -, hb⟩; replace Y := Y.on hb; clear hb))
    refine QTail.whole (fun W => Below w5.heap.size w5 W) (by kernel_rfl) (by kernel_rfl) (Below.refl _ _).drew ?_
    (refine wpQuiet_step (fun K hK => ?_); go_simp; (first | refine hK _ ?_ | refine ⟨_, fun _ _ => rfl, hK _ ?_⟩); clear hK K)
    (refine wpQuiet_step (fun K hK => ?_); go_simp; (first | refine hK _ ?_ | refine ⟨_, fun _ _ => rfl, hK _ ?_⟩); clear hK K)
    (with_reducible refine wpQuiet_step (fun K hK => ?_)); go_simp; (with_reducible refine hK _ ?_); clear hK K
    (with_reducible refine wpQuiet_step (fun K hK => ?_)); go_simp; (with_reducible refine hK _ ?_); clear hK K
    (with_reducible refine wpQuiet_step (fun K hK => ?_)); go_simp; (with_reducible refine hK _ ?_); clear hK K
    (with_reducible refine wpQuiet_step (fun K hK => ?_)); go_simp; (with_reducible refine hK _ ?_); clear hK K
    (with_reducible refine wpQuiet_step (fun K hK => ?_)); go_simp; (with_reducible refine hK _ ?_); clear hK K
    (with_reducible refine wpQuiet_step (fun K hK => ?_)); go_simp; (with_reducible refine hK _ ?_); clear hK K
    (with_reducible refine wpQuiet_step (fun K hK => ?_)); go_simp; (with_reducible refine hK _ ?_); clear hK K
    (with_reducible refine wpQuiet_step (fun K hK => ?_)); go_simp; (with_reducible refine hK _ ?_); clear hK K
    (with_reducible refine wpQuiet_step (fun K hK => ?_)); go_simp; (with_reducible refine hK _ ?_); clear hK K
    (refine wpQuiet_step (fun K hK => ?_); go_simp; (first | refine hK _ ?_ | refine ⟨_, fun _ _ => rfl, hK _ ?_⟩); clear hK K)
    (refine wpQuiet_step (fun K hK => ?_); go_simp; (first | refine hK _ ?_ | refine ⟨_, fun _ _ => rfl, hK _ ?_⟩); clear hK K)
    refine wpQuiet_nil ?_
    intro w7 hb7
    replace Y := Y.on hb7
    go_wp2
    go_ret
    exact ⟨rfl, Y.z⟩
  | some L =>
    obtain ⟨t, qs, rfl⟩ := ho.ne _ rfl
    have htl := ho.le _ rfl t (by simp)
    have HQL : Hid (qs.length ≤ 1000000) := Lib.hid (Nat.le_of_succ_le_succ (ho.len _ rfl))
    show Calls _ _ _ _ (GivesT (HH.sh t == root) w)
    have hdl := sh_length t
    have HSH0 : Hid (∀ W g2 c5, Lies W W.heap.size 1 (some ⟨g2, 0, none⟩) t.length c5 (t.map bv) → TT W → Calls Tryd.prog 47 #[.slice (some ⟨g2, 0, none⟩) t.length c5] W (Hash.GivesA ((HH.sh t).map bv) W)) := Lib.hid (fun W g2 c5 h hT => refShort_any t t.length c5 _ W h htl hT)
    generalize HH.sh t = D at *
    have E1 := Lib.hid (fun W => eq_d D root hdl hr W)
    clear hin ht hr hd ho htl hdl
    unfold dv
    go_enter Tryd.func19, Tryd.ntmps19
    go_wp2_with (first
      | (refine load_d 16 rfl rfl _ rfl (w.heap.size + 1) 0 rfl d HD.out Y.b.range ?_)
      | (go_at_call 25; (with_reducible refine (HPA.out _ Y.z).mono ?_); rintro e w5 ⟨v4, m4, rfl, hown, hb⟩; replace hown := hown _ rfl; replace Y := Y.on hb; clear hb; obtain ⟨g, c4, g2, c5, rfl, hg, hc4, hcell, hg0, hg2, hlies⟩ := hown.at_ (i := qs.length) (x := t) (by simp); obtain rfl : m4 = qs.length + 1 := by have := hown.len; simp at this; omega))
    have y5 : ((qs.length + 1 : Nat) : Int) - 1 = (qs.length : Int) := by omega
    have y6 : IntKind.i64.wrap (qs.length : Int) = (qs.length : Int) := IntWalk.i64_in _ (by have := HQL.out; omega)
    have HC0 : Vi w w5 w5 root d := ⟨Y, Below.refl _ _⟩
    have HCL : Hid (∀ W, Vi w w5 W root d → W.cell? ⟨g, qs.length, none⟩ = some (.slice (some ⟨g2, 0, none⟩) t.length c5)) := Lib.hid (fun W h => (h.far.cell (p := ⟨g, qs.length, none⟩) hg).trans hcell)
    have HSH : Hid (∀ W, Vi w w5 W root d → Calls Tryd.prog 47 #[.slice (some ⟨g2, 0, none⟩) t.length c5] W (Hash.GivesA (D.map bv) W)) := Lib.hid (fun W h => HSH0.out W g2 c5 (((hlies.below h.far).more h.far.size)) (HTT.out.on h.v.z))
    have HEQ : Hid (∀ W, Vi w w5 W root d → (Op.equalIn 10000 29 (.agg (D.map bv).toArray) (.agg (root.map bv).toArray)).run Tryd.prog W = .ok (D == root) W) := Lib.hid (fun W _ => E1.out W)
    clear hcell hlies hown Y hg hg2 hg0
    refine QTail.whole (fun W => Vi w w5 W root d) (by kernel_rfl) (by kernel_rfl) (HC0.on (Hash.belowD _)) ?_
    (refine wpQuiet_step (fun K hK => ?_); go_simp; (first | refine hK _ ?_ | refine ⟨_, fun _ _ => rfl, hK _ ?_⟩); clear hK K)
    (refine wpQuiet_step (fun K hK => ?_); go_simp; (first | refine hK _ ?_ | refine ⟨_, fun _ _ => rfl, hK _ ?_⟩); clear hK K)
    (refine wpQuiet_step (fun K hK => ?_); go_simp; (first | refine hK _ ?_ | refine ⟨_, fun _ _ => rfl, hK _ ?_⟩); clear hK K)
    (refine wpQuiet_step (fun K hK => ?_); go_simp; (first | refine hK _ ?_ | refine ⟨_, fun _ _ => rfl, hK _ ?_⟩); clear hK K)
    (refine wpQuiet_step (fun K hK => ?_); go_simp; (first | refine hK _ ?_ | refine ⟨_, fun _ _ => rfl, hK _ ?_⟩); clear hK K)
    (refine wpQuiet_step (fun K hK => ?_); go_simp; (first | refine hK _ ?_ | refine ⟨_, fun _ _ => rfl, hK _ ?_⟩); clear hK K)
    (refine wpQuiet_step (fun K hK => ?_); go_simp; refine ⟨.pointer (some ⟨g, qs.length, none⟩), fun W hW => ?_, hK _ ?_⟩; (first | (rw [if_pos (by omega)]; exact ⟨rfl, rfl⟩) | (rw [if_pos (by omega)]; rfl) | exact ⟨rfl, rfl⟩ | rfl); clear hK K)
    (refine wpQuiet_step (fun K hK => ?_); go_simp; refine ⟨(.slice (some ⟨g2, 0, none⟩) t.length c5), fun W hW => ?_, hK _ ?_⟩; (first | (rw [HCL.out W hW]; exact ⟨rfl, rfl⟩) | (rw [HCL.out W hW]; rfl)); clear hK K)
    (refine wpQuiet_step (fun K hK => ?_); go_simp; refine ⟨_, fun W hW => (HSH.out W hW).mono fun e w' ⟨he, hb⟩ => ⟨he, hW.on hb⟩, hK _ ?_⟩; clear hK K)
    refine QTail.loadC (by rfl) 29 (.tmp 5) rfl w.heap.size 0 rfl (root.map bv) _ (fun W h => h.v.a.range) und_d rfl (info_d HR.out) ?_
    (refine wpQuiet_step (fun K hK => ?_); go_simp; refine ⟨(.bool (D == root)), fun W hW => ?_, hK _ ?_⟩; (first | (rw [HEQ.out W hW]; exact ⟨rfl, rfl⟩) | (rw [HEQ.out W hW]; rfl)); clear hK K)
    (refine wpQuiet_step (fun K hK => ?_); go_simp; (first | refine hK _ ?_ | refine ⟨_, fun _ _ => rfl, hK _ ?_⟩); clear hK K)
    (refine wpQuiet_step (fun K hK => ?_); go_simp; (first | refine hK _ ?_ | refine ⟨_, fun _ _ => rfl, hK _ ?_⟩); clear hK K)
    refine wpQuiet_nil ?_
    intro w7 Y
    go_wp2
    go_ret
    exact ⟨rfl, Y.v.z⟩
/-- Out of range. -/
theorem refVerify_no (root d : List UInt8) (hr : root.length = 16) (hd : d.length = 16) (n i : Int) (q c : Nat) (A : Option Addr) (w : World) (ht : TT w) (h : i < 0 ∨ n ≤ i) :
    Calls Tryd.prog 19 #[dv root, .int .i64 n, .int .i64 i, dv d, .slice A q c] w (GivesT false w) :=
  refVerify_of root d hr hd n i q c A w ht none inp_none (fun W _ => refInputs_no d hd n i q c A W h)
theorem refVerify_any (root d : List UInt8) (hr : root.length = 16) (hd : d.length = 16) (n i q c : Nat) (A : Option Addr) (w : World) (ht : TT w) (p : List (List UInt8)) (hl : LiesD w w.heap.size A q c p) (hq : q ≤ 1000000) (hi : i < n) (hn : n ≤ 9223372036854775807) :
    Calls Tryd.prog 19 #[dv root, .int .i64 (n : Int), .int .i64 (i : Int), dv d, .slice A q c] w (GivesT (verd (inputs HH p.reverse n i d) root) w) :=
  refVerify_of root d hr hd n i q c A w ht _ (inp_of (fun e he => hl.ok e (List.mem_reverse.1 he)) hd (by rw [List.length_reverse, hl.len]; exact hq)) (fun W h => refInputs_any q p n i c A d W hq ((hl.below h).more h.size) (ht.on h) hi hn hd)
end Mk
end Go.Proofs.YthpkeaafgabjiaaDoor

