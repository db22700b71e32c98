/- MPfR; MPfH; MPfA: what each of these parts proves stands ahead of it. -/
import Derived.Test.YthpkeaafgabjiaaDoorM31
/- The reference of package merkle: PrefixInputs. Conditions: the slice reads as a list of digests, the tables are laid. -/
namespace Go.Proofs.YthpkeaafgabjiaaDoor
open Go.RowKit
namespace Mk
open Wire (bv sv Lies)
open Hash (bcj)

/-- Behind the call: the row that it gave, its two digests in blocks of their own. -/
structure Ph (w W : World) (old x : List UInt8) (g g' : Nat) (X Y : List UInt8) (v : Value) (k : Nat) (L : List (List UInt8)) : Prop where
  p : Pg w W old zero zero x
  a : Dg W g X
  b : Dg W g' Y
  own : OwnT W (w.heap.size + 4) v k L
  far : ∀ j, some j = v.ownBlock → w.heap.size + 3 < j ∧ j ≠ g ∧ j ≠ g'
theorem Ph.on {w W W' : World} {old x X Y : List UInt8} {g g' : Nat} {v : Value} {k : Nat} {L : List (List UInt8)} (h : Ph w W old x g g' X Y v k L) (hb : Below W.heap.size W W') : Ph w W' old x g g' X Y v k L := ⟨h.p.on hb, h.a.on hb, h.b.on hb, h.own.on hb, h.far⟩
theorem Pg.far {w W : World} {old x y l : List UInt8} (h : Pg w W old x y l) {g : Nat} (hg : w.heap.size + 3 < g) (xs : List Value) : Pg w (W.setCells g 0 xs) old x y l :=
  ⟨⟨h.p.o.aside (by omega) _, h.p.x.aside (by omega) _, h.p.y.aside (by omega) _, h.p.z.trans (Hash.below_cells (B := w.heap.size) (by omega) _ _ _)⟩, h.l.aside (by omega) _⟩
/-- Room for both, the row as it was given, between the call and the stores. -/
structure Rmm (w wb wc W : World) (old x : List UInt8) (g g' : Nat) (u u' : List UInt8) (v : Value) (k : Nat) (L : List (List UInt8)) : Prop where
  p : Pg w W old zero zero x
  a : Dg W g u
  b : Dg W g' u'
  ne : g ≠ g'
  fa : w.heap.size + 3 < g
  fb : w.heap.size + 3 < g'
  own : OwnT wc wb.heap.size v k L
  base : w.heap.size + 3 < wb.heap.size
  ga : g < wb.heap.size ∨ wc.heap.size ≤ g
  gb : g' < wb.heap.size ∨ wc.heap.size ≤ g'
  mid : Mid wb.heap.size wc.heap.size wc W
section
variable {w wb wc W : World} {old x : List UInt8} {g g' : Nat} {u u' X Y : List UInt8} {v : Value} {k : Nat} {L : List (List UInt8)}
theorem Rmm.one (h : Rmm w wb wc W old x g g' u u' v k L) (hX : X.length = 16) : Rmm w wb wc (W.setCells g 0 (X.map bv)) old x g g' X u' v k L :=
  ⟨h.p.far h.fa _, h.a.put hX, h.b.aside (fun e => h.ne e.symm) _, h.ne, h.fa, h.fb, h.own, h.base, h.ga, h.gb, h.mid.cells h.ga _ _⟩
theorem Rmm.two (h : Rmm w wb wc W old x g g' u u' v k L) (hY : Y.length = 16) : Ph w (W.setCells g' 0 (Y.map bv)) old x g g' u Y v k L :=
  ⟨h.p.far h.fb _, h.a.aside h.ne _, h.b.put hY, (h.own.mid (h.mid.cells h.gb _ _)).more (by have := h.base; omega), fun j hj => by
    obtain ⟨vs, hrow, _⟩ := h.own
    have h1 := hrow.lt j hj.symm
    have h2 := h.base
    have h3 := h.ga
    have h4 := h.gb
    exact ⟨by omega, by omega, by omega⟩⟩
end
theorem one_mem {w : World} {base : Nat} {y : List UInt8} {u : Value} (h : Mem w base y u) : ∀ (i : Nat) (z : List UInt8), [y][i]? = some z → ∃ u', [u][i]? = some u' ∧ Mem w base z u' := fun i z hz => by
  cases i with
  | zero => cases hz; exact ⟨u, rfl, h⟩
  | succ i => simp at hz
theorem Ph.after {w W W' : World} {old x X Y : List UInt8} {g g' : Nat} {v : Value} {k : Nat} {L : List (List UInt8)} (h : Ph w W old x g g' X Y v k L) (hg : W.grownBy W' v.ownBlock) (hb : Below (w.heap.size + 4) W W') : Pf w W' old zero zero ∧ Dg W' g X :=
  ⟨⟨⟨arr_grown h.p.p.o.arr hg (by omega) (fun e => by have := (h.far _ e).1; omega)⟩, ⟨arr_grown h.p.p.x.arr hg (by omega) (fun e => by have := (h.far _ e).1; omega)⟩, ⟨arr_grown h.p.p.y.arr hg (by omega) (fun e => by have := (h.far _ e).1; omega)⟩, h.p.p.z.trans (hb.mono (by omega))⟩,
    ⟨arr_grown h.a.arr hg (by omega) (fun e => (h.far _ e).2.1 rfl)⟩⟩
/-- Behind the append. -/
structure Pe (w W : World) (old X N : List UInt8) (g g6 c6 : Nat) (v : Value) (k : Nat) (L : List (List UInt8)) : Prop where
  own : OwnT W (w.heap.size + 4) v k L
  f : Pf w W old zero zero
  a : Dg W g X
  m : Mem W (w.heap.size + 4) N (.slice (some ⟨g6, 0, none⟩) N.length c6)
theorem Pe.on {w W W' : World} {old X N : List UInt8} {g g6 c6 : Nat} {v : Value} {k : Nat} {L : List (List UInt8)} (h : Pe w W old X N g g6 c6 v k L) (hb : Below W.heap.size W W') : Pe w W' old X N g g6 c6 v k L := ⟨h.own.on hb, h.f.on hb, h.a.on hb, h.m.on hb⟩
theorem Pe.lies {w W : World} {old X N : List UInt8} {g g6 c6 : Nat} {v : Value} {k : Nat} {L : List (List UInt8)} (h : Pe w W old X N g g6 c6 v k L) : Lies W W.heap.size 1 (some ⟨g6, 0, none⟩) N.length c6 (N.map bv) := by
  obtain ⟨g, c, e, ho⟩ := h.m
  cases e
  exact Wire.lies_own ho
theorem wrapI {q : Nat} (h : q ≤ 9223372036854775807) : IntKind.i64.wrap (q : Int) = (q : Int) := IntWalk.i64_in _ (by omega)

set_option maxRecDepth 100000 in
set_option maxHeartbeats 8000000 in
theorem refPfx_low (old : List UInt8) (ho : old.length = 16) (m n k q c : Nat) (whole : Bool) (A : Option Addr) (p : List (List UInt8)) (x X1 X2 : List UInt8) (L : List (List UInt8)) (w : World) (hl : LiesD w w.heap.size A (q + 1) c p) (hx : p[q]? = some x) (ht : TT w)
    (hmn : ¬ m = n) (hn : n ≤ 9223372036854775807) (hk : k = split n) (h2 : 2 ≤ n) (hmk : m ≤ k) (hX1 : X1.length = 16) (hX2 : X2.length = 16) (hL : L.length ≤ 2000000) (hq : q ≤ 1000000)
    (hc : ∀ W, Below w.heap.size w W → Calls Tryd.prog 26 #[dv old, .int .i64 (m : Int), .int .i64 (k : Int), .bool whole, .slice A q c] W (GivesFx L X1 X2 W)) :
    Calls Tryd.prog 26 #[dv old, .int .i64 (m : Int), .int .i64 (n : Int), .bool whole, .slice A (q + 1) c] w (GivesFx (L ++ [HH.ni X2 x]) X1 (HH.sh (HH.ni X2 x)) w) := by
  have HLL := Lib.hid hL
  have hq2 : q ≤ 9223372036854775807 := Nat.le_trans hq (by decide)
  clear hL hq
  have hmost : c ≤ 9223372036854775807 := by have := hl.lies.most; unfold maxLen at this; omega
  have hle := hl.lies.le
  obtain ⟨b, o, rfl, hbb, hrx⟩ := hl.row hx
  have HO := Lib.hid ho
  have HX := Lib.hid (hl.ok.at_ hx)
  have HC : Hid (∀ W, Below w.heap.size w W → Calls Tryd.prog 26 #[.agg (old.map bv).toArray, .int .i64 (m : Int), .int .i64 (k : Int), .bool whole, .slice (some ⟨b, o, none⟩) q c] W (GivesFx L X1 X2 W)) := Lib.hid hc
  have HTT := Lib.hid ht
  have HSP := Lib.hid (fun W => refSplit_any n h2 hn W)
  rw [← hk] at HSP
  have HRX : Hid (∀ W, Below w.heap.size w W → W.rangeAt b (o + q * 16) (x.map bv)) := Lib.hid (fun W h j u hu => (h.cell (by show b < w.heap.size; exact hbb)).trans (hrx j u hu))
  have Y := pf_new w ho 29
  have e1 : (((q + 1 : Nat) : Int) == 0) = false := by simp; omega
  have e2 : ¬ ((q + 1 : Nat) : Int) = 0 := by omega
  have e3 : ((q + 1 : Nat) : Int) - 1 = (q : Int) := by omega
  have e4 : wrap64 (q : Int) = (q : Int) := by simp only [wrap64]; omega
  have e6 : ¬ q + 1 = 0 := Nat.succ_ne_zero q
  have z0 : (m : Int) ≤ (k : Int) := Int.ofNat_le.2 hmk
  have z1 : ¬ (m : Int) = (n : Int) := fun h => hmn (Int.ofNat.inj h)
  have HS : Hid (∀ A B C : Obj, (((w.alloc A).alloc B).alloc C).heap.size = w.heap.size + 3) := Lib.hid (fun A B C => by rw [World.size_alloc, World.size_alloc, World.size_alloc])
  have HX1 := Lib.hid hX1
  have HX2 := Lib.hid hX2
  have e5 : IntKind.i64.wrap (q : Int) = (q : Int) := wrapI hq2
  clear hl hx hrx ho hc ht hk hX1 hX2
  unfold dv
  go_enter Tryd.func26, Tryd.ntmps26
  go_wp2_with (first
    | (refine load_d 42 rfl rfl _ rfl b (o + q * 16) rfl x HX.out (HRX.out _ Y.z) ?_)
    | (refine store_d (.tmp 13) (.tmp 42) rfl rfl (w.heap.size + 1 + 1 + 1) 0 rfl x rfl HX.out (pg_room Y (HS.out _ _ _) _).l.there ?_; refine Hash.gen_world (Pq := fun W => Pg w W old zero zero x) (G := fun W => wpList _ _ _ _ _ W) ((pg_room Y (HS.out _ _ _) _).put HX.out) ?_; clear Y; intro W2 Y)
    | (go_at_call 36; (with_reducible refine (HSP.out _).mono ?_); rintro e w3 ⟨rfl, hb⟩; replace Y := Y.on hb; clear hb))
  replace Y := Y.on (Hash.belowD _)
  refine RegC.regionJ (ι := Nat × Nat × Value × Nat) (fun W => Pg w W old zero zero x) [] (fun i W => Ph w W old x i.1 i.2.1 X1 X2 i.2.2.1 i.2.2.2 L)
    (fun a i => (((((((((((((((((a.put (some 54) (.agg (old.map bv).toArray)).put (some 55) (.int .i64 (m : Int))).put (some 56) (.int .i64 (k : Int))).put (some 57) (.bool whole)).put (some 58) (.slice (some ⟨b, o, none⟩) (q + 1) c)).put (some 59) (.slice (some ⟨b, o, none⟩) (q + 1) c)).put (some 60) (.int .i64 ((q + 1 : Nat) : Int))).put (some 61) (.int .i64 (q : Int))).put (some 62) (.slice (some ⟨b, o, none⟩) q c)).put (some 63) (.tuple #[i.2.2.1, dv X1, dv X2])).put (some 53) (.tuple #[i.2.2.1, dv X1, dv X2])).put (some 64) i.2.2.1).put (some 65) (dv X1)).put (some 66) (dv X2)).put (some 16) (.pointer (some ⟨i.1, 0, none⟩))).put (some 17) (.pointer (some ⟨i.2.1, 0, none⟩))).put (some 15) i.2.2.1)) (by kernel_rfl) (fun _ _ d _ _ h => by cases d <;> exact h) ?_ ?_
  · intro Q' hQ cont
    have sz := Y.l.lt
    (refine RegC.take (i := 0) (v := (.agg (old.map bv).toArray)) rfl (by kernel_rfl) (by kernel_rfl) (by kernel_rfl) (by kernel_rfl) (by kernel_rfl) (fun _ _ _ h => hQ _ _ _ _ _ h) (Or.inl ⟨by rfl, fun W hW => ?_⟩) Y ?_; focus (exact RegC.exec_rowC 29 (.tmp 5) rfl w.heap.size 0 (by go_simp) (old.map bv) _ hW.p.o.range und_d rfl (info_d HO.out)))
    (refine RegC.take (i := 1) (v := ?_) rfl (by kernel_rfl) (by kernel_rfl) (by kernel_rfl) (by kernel_rfl) (by kernel_rfl) (fun _ _ _ h => hQ _ _ _ _ _ h) (Or.inl ⟨by rfl, ?_⟩) Y ?_; rotate_left 1; focus (intro W hW; go_simp; try (first | with_reducible rfl | (rw [if_pos (by omega)]; done) | (rw [if_pos (by omega), if_neg (by omega)]; done) | (rw [if_neg (by omega)]; done))))
    (refine RegC.take (i := 2) (v := ?_) rfl (by kernel_rfl) (by kernel_rfl) (by kernel_rfl) (by kernel_rfl) (by kernel_rfl) (fun _ _ _ h => hQ _ _ _ _ _ h) (Or.inl ⟨by rfl, ?_⟩) Y ?_; rotate_left 1; focus (intro W hW; go_simp; try (first | with_reducible rfl | (rw [if_pos (by omega)]; done) | (rw [if_pos (by omega), if_neg (by omega)]; done) | (rw [if_neg (by omega)]; done))))
    (refine RegC.take (i := 3) (v := ?_) rfl (by kernel_rfl) (by kernel_rfl) (by kernel_rfl) (by kernel_rfl) (by kernel_rfl) (fun _ _ _ h => hQ _ _ _ _ _ h) (Or.inl ⟨by rfl, ?_⟩) Y ?_; rotate_left 1; focus (intro W hW; go_simp; try (first | with_reducible rfl | (rw [if_pos (by omega)]; done) | (rw [if_pos (by omega), if_neg (by omega)]; done) | (rw [if_neg (by omega)]; done))))
    (refine RegC.take (i := 4) (v := ?_) rfl (by kernel_rfl) (by kernel_rfl) (by kernel_rfl) (by kernel_rfl) (by kernel_rfl) (fun _ _ _ h => hQ _ _ _ _ _ h) (Or.inl ⟨by rfl, ?_⟩) Y ?_; rotate_left 1; focus (intro W hW; go_simp; try (first | with_reducible rfl | (rw [if_pos (by omega)]; done) | (rw [if_pos (by omega), if_neg (by omega)]; done) | (rw [if_neg (by omega)]; done))))
    (refine RegC.take (i := 5) (v := ?_) rfl (by kernel_rfl) (by kernel_rfl) (by kernel_rfl) (by kernel_rfl) (by kernel_rfl) (fun _ _ _ h => hQ _ _ _ _ _ h) (Or.inl ⟨by rfl, ?_⟩) Y ?_; rotate_left 1; focus (intro W hW; go_simp; try (first | with_reducible rfl | (rw [if_pos (by omega)]; done) | (rw [if_pos (by omega), if_neg (by omega)]; done) | (rw [if_neg (by omega)]; done))))
    (refine RegC.take (i := 6) (v := ?_) rfl (by kernel_rfl) (by kernel_rfl) (by kernel_rfl) (by kernel_rfl) (by kernel_rfl) (fun _ _ _ h => hQ _ _ _ _ _ h) (Or.inl ⟨by rfl, ?_⟩) Y ?_; rotate_left 1; focus (intro W hW; go_simp; try (first | with_reducible rfl | (rw [if_pos (by omega)]; done) | (rw [if_pos (by omega), if_neg (by omega)]; done) | (rw [if_neg (by omega)]; done))))
    (refine RegC.take (i := 7) (v := ?_) rfl (by kernel_rfl) (by kernel_rfl) (by kernel_rfl) (by kernel_rfl) (by kernel_rfl) (fun _ _ _ h => hQ _ _ _ _ _ h) (Or.inl ⟨by rfl, ?_⟩) Y ?_; rotate_left 1; focus (intro W hW; go_simp; try (first | with_reducible rfl | (rw [if_pos (by omega)]; done) | (rw [if_pos (by omega), if_neg (by omega)]; done) | (rw [if_neg (by omega)]; done))))
    (refine RegC.take (i := 8) (v := ?_) rfl (by kernel_rfl) (by kernel_rfl) (by kernel_rfl) (by kernel_rfl) (by kernel_rfl) (fun _ _ _ h => hQ _ _ _ _ _ h) (Or.inl ⟨by rfl, ?_⟩) Y ?_; rotate_left 1; focus (intro W hW; go_simp; try (first | with_reducible rfl | (rw [if_pos (by omega)]; done) | (rw [if_pos (by omega), if_neg (by omega)]; done) | (rw [if_neg (by omega)]; done))))
    clear e5
    refine Hash.gen_world (Pq := fun W => Pg w W old zero zero x) (G := fun W => RegC.anyT _ _ _ _ _ _ _ _ _ W) Y ?_
    clear Y sz
    intro w4 Y
    refine RegC.ready (rs := [9, 14, 15]) (by kernel_rfl) (by simp) ?_
    refine RegC.cons rfl (fun K hK => ?_) ?_
    · go_simp
      have bsz := Y.l.lt
      go_wp2_with (go_at_call 26; (with_reducible refine (HC.out _ Y.p.z).mono ?_); rintro e wc ⟨vr, kr, rfl, ho, hb⟩; have HOW := Lib.hid ho; have csz := hb.size; replace Y := Y.on hb; clear ho)
      refine ⟨fun _ => Y, ?_⟩
      (refine RegC.take (i := 10) (v := ?_) rfl (by kernel_rfl) (by kernel_rfl) (by kernel_rfl) (by kernel_rfl) (by kernel_rfl) (fun _ _ _ h => hQ _ _ _ _ _ h) (Or.inl ⟨by rfl, ?_⟩) Y ?_; rotate_left 1; focus (intro W hW; go_simp; try (first | with_reducible rfl | (rw [if_pos (by omega)]; done) | (rw [if_pos (by omega), if_neg (by omega)]; done) | (rw [if_neg (by omega)]; done))))
      (refine RegC.take (i := 11) (v := ?_) rfl (by kernel_rfl) (by kernel_rfl) (by kernel_rfl) (by kernel_rfl) (by kernel_rfl) (fun _ _ _ h => hQ _ _ _ _ _ h) (Or.inl ⟨by rfl, ?_⟩) Y ?_; rotate_left 1; focus (intro W hW; go_simp; try (first | with_reducible rfl | (rw [if_pos (by omega)]; done) | (rw [if_pos (by omega), if_neg (by omega)]; done) | (rw [if_neg (by omega)]; done))))
      (refine RegC.take (i := 12) (v := ?_) rfl (by kernel_rfl) (by kernel_rfl) (by kernel_rfl) (by kernel_rfl) (by kernel_rfl) (fun _ _ _ h => hQ _ _ _ _ _ h) (Or.inl ⟨by rfl, ?_⟩) Y ?_; rotate_left 1; focus (intro W hW; go_simp; try (first | with_reducible rfl | (rw [if_pos (by omega)]; done) | (rw [if_pos (by omega), if_neg (by omega)]; done) | (rw [if_neg (by omega)]; done))))
      (refine RegC.take (i := 13) (v := ?_) rfl (by kernel_rfl) (by kernel_rfl) (by kernel_rfl) (by kernel_rfl) (by kernel_rfl) (fun _ _ _ h => hQ _ _ _ _ _ h) (Or.inl ⟨by rfl, ?_⟩) Y ?_; rotate_left 1; focus (intro W hW; go_simp; try (first | with_reducible rfl | (rw [if_pos (by omega)]; done) | (rw [if_pos (by omega), if_neg (by omega)]; done) | (rw [if_neg (by omega)]; done))))
      have M := Mid.refl w4.heap.size wc.heap.size wc
      refine Hash.gen_world (Pq := fun W => Pg w W old zero zero x ∧ Mid w4.heap.size wc.heap.size wc W) (G := fun W => RegC.anyT _ _ _ _ _ _ _ _ _ W) ⟨Y, M⟩ ?_
      clear Y M
      intro w5 hw
      obtain ⟨Y, M⟩ := hw
      refine RegC.ready (rs := [14, 15]) (by kernel_rfl) (by simp) ?_
      refine RegC.cons rfl (fun K hK => ?_) ?_
      · go_simp
        have fa14 := Y.l.lt
        have ta14 := M.size
        refine hK _ _ ⟨fun _ => Y.on (Wire.b1 _ _), ?_⟩
        refine Hash.gen_world (Pq := fun W => Pg w W old zero zero x ∧ Dg W w5.heap.size zero ∧ Mid w4.heap.size wc.heap.size wc W) (G := fun W => RegC.anyT _ _ _ _ _ _ _ _ _ W) ⟨Y.on (Wire.b1 _ _), dg_zero _ _, M.on M.size (Wire.b1 _ _)⟩ ?_
        clear Y M hK K
        intro w6 hw
        obtain ⟨Y, D14, M⟩ := hw
        generalize w5.heap.size = g14 at *
        refine RegC.ready (rs := [15]) (by kernel_rfl) (by simp) ?_
        refine RegC.cons rfl (fun K hK => ?_) RegC.nil
        go_simp
        have fa15 := Y.l.lt
        have na14 := D14.lt
        have ta15 := M.size
        refine hK _ _ ⟨fun _ => Y.on (Wire.b1 _ _), ?_⟩
        refine Hash.gen_world (Pq := fun W => Pg w W old zero zero x ∧ Dg W g14 zero ∧ Dg W w6.heap.size zero ∧ Mid w4.heap.size wc.heap.size wc W) (G := fun W => RegC.anyT _ _ _ _ _ _ _ _ _ W) ⟨Y.on (Wire.b1 _ _), D14.on (Wire.b1 _ _), dg_zero _ _, M.on M.size (Wire.b1 _ _)⟩ ?_
        clear Y D14 M hK K
        intro w7 hw
        obtain ⟨Y, D14, D15, M⟩ := hw
        generalize w6.heap.size = g15 at *
        clear hq2 hle hmost
        have R : Rmm w w4 wc w7 old x g14 g15 zero zero vr kr L := ⟨Y, D14, D15, by omega, by omega, by omega, HOW.out, by omega, by omega, by omega, M⟩
        (refine RegC.take (i := 16) (v := ?_) rfl (by kernel_rfl) (by kernel_rfl) (by kernel_rfl) (by kernel_rfl) (by kernel_rfl) (fun _ _ _ h => hQ _ _ _ _ _ h) (Or.inl ⟨by rfl, ?_⟩) Y ?_; rotate_left 1; focus (intro W hW; go_simp; try (first | with_reducible rfl | (rw [if_pos (by omega)]; done) | (rw [if_pos (by omega), if_neg (by omega)]; done) | (rw [if_neg (by omega)]; done))))
        clear Y D14 D15 M
        refine RegC.store1 17 (by kernel_rfl) rfl rfl 29 (.tmp 16) (.tmp 65) rfl g14 0 (X1.map bv).toArray (by go_simp) (by go_simp; rfl) (R.a.thereA HX1.out) (info_dA HX1.out) (one_d X1) (R.one HX1.out).p ?_
        refine Hash.gen_world (Pq := fun W => Rmm w w4 wc W old x g14 g15 X1 zero vr kr L) (G := fun W => RegC.anyT _ _ _ _ _ _ _ _ _ W) (R.one HX1.out) ?_
        clear R
        intro w8 R
        refine RegC.store1 18 (by kernel_rfl) rfl rfl 29 (.tmp 17) (.tmp 66) rfl g15 0 (X2.map bv).toArray (by go_simp) (by go_simp; rfl) (R.b.thereA HX2.out) (info_dA HX2.out) (one_d X2) (R.two HX2.out).p ?_
        refine Hash.gen_world (Pq := fun W => Ph w W old x g14 g15 X1 X2 vr kr L) (G := fun W => RegC.anyT _ _ _ _ _ _ _ _ _ W) (R.two HX2.out) ?_
        clear R
        intro w9 R
        refine RegC.done (by kernel_rfl) ?_
        exact Eq.mp (by kernel_rfl) (cont ⟨g14, g15, vr, kr⟩ _ R)
      · refine RegC.cons rfl (fun K hK => ?_) RegC.nil
        go_simp
        have fa15 := Y.l.lt
        have ta15 := M.size
        refine hK _ _ ⟨fun _ => Y.on (Wire.b1 _ _), ?_⟩
        refine Hash.gen_world (Pq := fun W => Pg w W old zero zero x ∧ Dg W w5.heap.size zero ∧ Mid w4.heap.size wc.heap.size wc W) (G := fun W => RegC.anyT _ _ _ _ _ _ _ _ _ W) ⟨Y.on (Wire.b1 _ _), dg_zero _ _, M.on M.size (Wire.b1 _ _)⟩ ?_
        clear Y M hK K
        intro w6 hw
        obtain ⟨Y, D15, M⟩ := hw
        generalize w5.heap.size = g15 at *
        refine RegC.ready (rs := [14]) (by kernel_rfl) (by simp) ?_
        refine RegC.cons rfl (fun K hK => ?_) RegC.nil
        go_simp
        have fa14 := Y.l.lt
        have na15 := D15.lt
        have ta14 := M.size
        refine hK _ _ ⟨fun _ => Y.on (Wire.b1 _ _), ?_⟩
        refine Hash.gen_world (Pq := fun W => Pg w W old zero zero x ∧ Dg W g15 zero ∧ Dg W w6.heap.size zero ∧ Mid w4.heap.size wc.heap.size wc W) (G := fun W => RegC.anyT _ _ _ _ _ _ _ _ _ W) ⟨Y.on (Wire.b1 _ _), D15.on (Wire.b1 _ _), dg_zero _ _, M.on M.size (Wire.b1 _ _)⟩ ?_
        clear Y D15 M hK K
        intro w7 hw
        obtain ⟨Y, D15, D14, M⟩ := hw
        generalize w6.heap.size = g14 at *
        clear hq2 hle hmost
        have R : Rmm w w4 wc w7 old x g14 g15 zero zero vr kr L := ⟨Y, D14, D15, by omega, by omega, by omega, HOW.out, by omega, by omega, by omega, M⟩
        (refine RegC.take (i := 16) (v := ?_) rfl (by kernel_rfl) (by kernel_rfl) (by kernel_rfl) (by kernel_rfl) (by kernel_rfl) (fun _ _ _ h => hQ _ _ _ _ _ h) (Or.inl ⟨by rfl, ?_⟩) Y ?_; rotate_left 1; focus (intro W hW; go_simp; try (first | with_reducible rfl | (rw [if_pos (by omega)]; done) | (rw [if_pos (by omega), if_neg (by omega)]; done) | (rw [if_neg (by omega)]; done))))
        clear Y D14 D15 M
        refine RegC.store1 17 (by kernel_rfl) rfl rfl 29 (.tmp 16) (.tmp 65) rfl g14 0 (X1.map bv).toArray (by go_simp) (by go_simp; rfl) (R.a.thereA HX1.out) (info_dA HX1.out) (one_d X1) (R.one HX1.out).p ?_
        refine Hash.gen_world (Pq := fun W => Rmm w w4 wc W old x g14 g15 X1 zero vr kr L) (G := fun W => RegC.anyT _ _ _ _ _ _ _ _ _ W) (R.one HX1.out) ?_
        clear R
        intro w8 R
        refine RegC.store1 18 (by kernel_rfl) rfl rfl 29 (.tmp 17) (.tmp 66) rfl g15 0 (X2.map bv).toArray (by go_simp) (by go_simp; rfl) (R.b.thereA HX2.out) (info_dA HX2.out) (one_d X2) (R.two HX2.out).p ?_
        refine Hash.gen_world (Pq := fun W => Ph w W old x g14 g15 X1 X2 vr kr L) (G := fun W => RegC.anyT _ _ _ _ _ _ _ _ _ W) (R.two HX2.out) ?_
        clear R
        intro w9 R
        refine RegC.done (by kernel_rfl) ?_
        exact Eq.mp (by kernel_rfl) (cont ⟨g14, g15, vr, kr⟩ _ R)
    · refine RegC.cons rfl (fun K hK => ?_) ?_
      · go_simp
        have fa14 := Y.l.lt
        refine hK _ _ ⟨fun _ => Y.on (Wire.b1 _ _), ?_⟩
        refine Hash.gen_world (Pq := fun W => Pg w W old zero zero x ∧ Dg W w4.heap.size zero) (G := fun W => RegC.anyT _ _ _ _ _ _ _ _ _ W) ⟨Y.on (Wire.b1 _ _), dg_zero _ _⟩ ?_
        clear Y hK K
        intro w5 hw
        obtain ⟨Y, D14⟩ := hw
        generalize w4.heap.size = g14 at *
        refine RegC.ready (rs := [9, 15]) (by kernel_rfl) (by simp) ?_
        refine RegC.cons rfl (fun K hK => ?_) ?_
        · go_simp
          have bsz := Y.l.lt
          go_wp2_with (go_at_call 26; (with_reducible refine (HC.out _ Y.p.z).mono ?_); rintro e wc ⟨vr, kr, rfl, ho, hb⟩; have HOW := Lib.hid ho; have csz := hb.size; replace Y := Y.on hb; have cb14 := D14.lt; replace D14 := D14.on hb; clear ho)
          refine ⟨fun _ => Y, ?_⟩
          (refine RegC.take (i := 10) (v := ?_) rfl (by kernel_rfl) (by kernel_rfl) (by kernel_rfl) (by kernel_rfl) (by kernel_rfl) (fun _ _ _ h => hQ _ _ _ _ _ h) (Or.inl ⟨by rfl, ?_⟩) Y ?_; rotate_left 1; focus (intro W hW; go_simp; try (first | with_reducible rfl | (rw [if_pos (by omega)]; done) | (rw [if_pos (by omega), if_neg (by omega)]; done) | (rw [if_neg (by omega)]; done))))
          (refine RegC.take (i := 11) (v := ?_) rfl (by kernel_rfl) (by kernel_rfl) (by kernel_rfl) (by kernel_rfl) (by kernel_rfl) (fun _ _ _ h => hQ _ _ _ _ _ h) (Or.inl ⟨by rfl, ?_⟩) Y ?_; rotate_left 1; focus (intro W hW; go_simp; try (first | with_reducible rfl | (rw [if_pos (by omega)]; done) | (rw [if_pos (by omega), if_neg (by omega)]; done) | (rw [if_neg (by omega)]; done))))
          (refine RegC.take (i := 12) (v := ?_) rfl (by kernel_rfl) (by kernel_rfl) (by kernel_rfl) (by kernel_rfl) (by kernel_rfl) (fun _ _ _ h => hQ _ _ _ _ _ h) (Or.inl ⟨by rfl, ?_⟩) Y ?_; rotate_left 1; focus (intro W hW; go_simp; try (first | with_reducible rfl | (rw [if_pos (by omega)]; done) | (rw [if_pos (by omega), if_neg (by omega)]; done) | (rw [if_neg (by omega)]; done))))
          (refine RegC.take (i := 13) (v := ?_) rfl (by kernel_rfl) (by kernel_rfl) (by kernel_rfl) (by kernel_rfl) (by kernel_rfl) (fun _ _ _ h => hQ _ _ _ _ _ h) (Or.inl ⟨by rfl, ?_⟩) Y ?_; rotate_left 1; focus (intro W hW; go_simp; try (first | with_reducible rfl | (rw [if_pos (by omega)]; done) | (rw [if_pos (by omega), if_neg (by omega)]; done) | (rw [if_neg (by omega)]; done))))
          have M := Mid.refl w5.heap.size wc.heap.size wc
          refine Hash.gen_world (Pq := fun W => Pg w W old zero zero x ∧ Dg W g14 zero ∧ Mid w5.heap.size wc.heap.size wc W) (G := fun W => RegC.anyT _ _ _ _ _ _ _ _ _ W) ⟨Y, D14, M⟩ ?_
          clear Y M D14
          intro w6 hw
          obtain ⟨Y, D14, M⟩ := hw
          refine RegC.ready (rs := [15]) (by kernel_rfl) (by simp) ?_
          refine RegC.cons rfl (fun K hK => ?_) RegC.nil
          go_simp
          have fa15 := Y.l.lt
          have na14 := D14.lt
          have ta15 := M.size
          refine hK _ _ ⟨fun _ => Y.on (Wire.b1 _ _), ?_⟩
          refine Hash.gen_world (Pq := fun W => Pg w W old zero zero x ∧ Dg W g14 zero ∧ Dg W w6.heap.size zero ∧ Mid w5.heap.size wc.heap.size wc W) (G := fun W => RegC.anyT _ _ _ _ _ _ _ _ _ W) ⟨Y.on (Wire.b1 _ _), D14.on (Wire.b1 _ _), dg_zero _ _, M.on M.size (Wire.b1 _ _)⟩ ?_
          clear Y D14 M hK K
          intro w7 hw
          obtain ⟨Y, D14, D15, M⟩ := hw
          generalize w6.heap.size = g15 at *
          clear hq2 hle hmost
          have R : Rmm w w5 wc w7 old x g14 g15 zero zero vr kr L := ⟨Y, D14, D15, by omega, by omega, by omega, HOW.out, by omega, by omega, by omega, M⟩
          (refine RegC.take (i := 16) (v := ?_) rfl (by kernel_rfl) (by kernel_rfl) (by kernel_rfl) (by kernel_rfl) (by kernel_rfl) (fun _ _ _ h => hQ _ _ _ _ _ h) (Or.inl ⟨by rfl, ?_⟩) Y ?_; rotate_left 1; focus (intro W hW; go_simp; try (first | with_reducible rfl | (rw [if_pos (by omega)]; done) | (rw [if_pos (by omega), if_neg (by omega)]; done) | (rw [if_neg (by omega)]; done))))
          clear Y D14 D15 M
          refine RegC.store1 17 (by kernel_rfl) rfl rfl 29 (.tmp 16) (.tmp 65) rfl g14 0 (X1.map bv).toArray (by go_simp) (by go_simp; rfl) (R.a.thereA HX1.out) (info_dA HX1.out) (one_d X1) (R.one HX1.out).p ?_
          refine Hash.gen_world (Pq := fun W => Rmm w w5 wc W old x g14 g15 X1 zero vr kr L) (G := fun W => RegC.anyT _ _ _ _ _ _ _ _ _ W) (R.one HX1.out) ?_
          clear R
          intro w8 R
          refine RegC.store1 18 (by kernel_rfl) rfl rfl 29 (.tmp 17) (.tmp 66) rfl g15 0 (X2.map bv).toArray (by go_simp) (by go_simp; rfl) (R.b.thereA HX2.out) (info_dA HX2.out) (one_d X2) (R.two HX2.out).p ?_
          refine Hash.gen_world (Pq := fun W => Ph w W old x g14 g15 X1 X2 vr kr L) (G := fun W => RegC.anyT _ _ _ _ _ _ _ _ _ W) (R.two HX2.out) ?_
          clear R
          intro w9 R
          refine RegC.done (by kernel_rfl) ?_
          exact Eq.mp (by kernel_rfl) (cont ⟨g14, g15, vr, kr⟩ _ R)
        · refine RegC.cons rfl (fun K hK => ?_) RegC.nil
          go_simp
          have fa15 := Y.l.lt
          have na14 := D14.lt
          refine hK _ _ ⟨fun _ => Y.on (Wire.b1 _ _), ?_⟩
          refine Hash.gen_world (Pq := fun W => Pg w W old zero zero x ∧ Dg W g14 zero ∧ Dg W w5.heap.size zero) (G := fun W => RegC.anyT _ _ _ _ _ _ _ _ _ W) ⟨Y.on (Wire.b1 _ _), D14.on (Wire.b1 _ _), dg_zero _ _⟩ ?_
          clear Y D14 hK K
          intro w6 hw
          obtain ⟨Y, D14, D15⟩ := hw
          generalize w5.heap.size = g15 at *
          refine RegC.ready (rs := [9]) (by kernel_rfl) (by simp) ?_
          refine RegC.cons rfl (fun K hK => ?_) RegC.nil
          go_simp
          have bsz := Y.l.lt
          go_wp2_with (go_at_call 26; (with_reducible refine (HC.out _ Y.p.z).mono ?_); rintro e wc ⟨vr, kr, rfl, ho, hb⟩; have HOW := Lib.hid ho; have csz := hb.size; replace Y := Y.on hb; have cb14 := D14.lt; replace D14 := D14.on hb; have cb15 := D15.lt; replace D15 := D15.on hb; clear ho)
          refine ⟨fun _ => Y, ?_⟩
          (refine RegC.take (i := 10) (v := ?_) rfl (by kernel_rfl) (by kernel_rfl) (by kernel_rfl) (by kernel_rfl) (by kernel_rfl) (fun _ _ _ h => hQ _ _ _ _ _ h) (Or.inl ⟨by rfl, ?_⟩) Y ?_; rotate_left 1; focus (intro W hW; go_simp; try (first | with_reducible rfl | (rw [if_pos (by omega)]; done) | (rw [if_pos (by omega), if_neg (by omega)]; done) | (rw [if_neg (by omega)]; done))))
          (refine RegC.take (i := 11) (v := ?_) rfl (by kernel_rfl) (by kernel_rfl) (by kernel_rfl) (by kernel_rfl) (by kernel_rfl) (fun _ _ _ h => hQ _ _ _ _ _ h) (Or.inl ⟨by rfl, ?_⟩) Y ?_; rotate_left 1; focus (intro W hW; go_simp; try (first | with_reducible rfl | (rw [if_pos (by omega)]; done) | (rw [if_pos (by omega), if_neg (by omega)]; done) | (rw [if_neg (by omega)]; done))))
          (refine RegC.take (i := 12) (v := ?_) rfl (by kernel_rfl) (by kernel_rfl) (by kernel_rfl) (by kernel_rfl) (by kernel_rfl) (fun _ _ _ h => hQ _ _ _ _ _ h) (Or.inl ⟨by rfl, ?_⟩) Y ?_; rotate_left 1; focus (intro W hW; go_simp; try (first | with_reducible rfl | (rw [if_pos (by omega)]; done) | (rw [if_pos (by omega), if_neg (by omega)]; done) | (rw [if_neg (by omega)]; done))))
          (refine RegC.take (i := 13) (v := ?_) rfl (by kernel_rfl) (by kernel_rfl) (by kernel_rfl) (by kernel_rfl) (by kernel_rfl) (fun _ _ _ h => hQ _ _ _ _ _ h) (Or.inl ⟨by rfl, ?_⟩) Y ?_; rotate_left 1; focus (intro W hW; go_simp; try (first | with_reducible rfl | (rw [if_pos (by omega)]; done) | (rw [if_pos (by omega), if_neg (by omega)]; done) | (rw [if_neg (by omega)]; done))))
          have M := Mid.refl w6.heap.size wc.heap.size wc
          refine Hash.gen_world (Pq := fun W => Pg w W old zero zero x ∧ Dg W g14 zero ∧ Dg W g15 zero ∧ Mid w6.heap.size wc.heap.size wc W) (G := fun W => RegC.anyT _ _ _ _ _ _ _ _ _ W) ⟨Y, D14, D15, M⟩ ?_
          clear Y M D14 D15
          intro w7 hw
          obtain ⟨Y, D14, D15, M⟩ := hw
          clear hq2 hle hmost
          have R : Rmm w w6 wc w7 old x g14 g15 zero zero vr kr L := ⟨Y, D14, D15, by omega, by omega, by omega, HOW.out, by omega, by omega, by omega, M⟩
          (refine RegC.take (i := 16) (v := ?_) rfl (by kernel_rfl) (by kernel_rfl) (by kernel_rfl) (by kernel_rfl) (by kernel_rfl) (fun _ _ _ h => hQ _ _ _ _ _ h) (Or.inl ⟨by rfl, ?_⟩) Y ?_; rotate_left 1; focus (intro W hW; go_simp; try (first | with_reducible rfl | (rw [if_pos (by omega)]; done) | (rw [if_pos (by omega), if_neg (by omega)]; done) | (rw [if_neg (by omega)]; done))))
          clear Y D14 D15 M
          refine RegC.store1 17 (by kernel_rfl) rfl rfl 29 (.tmp 16) (.tmp 65) rfl g14 0 (X1.map bv).toArray (by go_simp) (by go_simp; rfl) (R.a.thereA HX1.out) (info_dA HX1.out) (one_d X1) (R.one HX1.out).p ?_
          refine Hash.gen_world (Pq := fun W => Rmm w w6 wc W old x g14 g15 X1 zero vr kr L) (G := fun W => RegC.anyT _ _ _ _ _ _ _ _ _ W) (R.one HX1.out) ?_
          clear R
          intro w8 R
          refine RegC.store1 18 (by kernel_rfl) rfl rfl 29 (.tmp 17) (.tmp 66) rfl g15 0 (X2.map bv).toArray (by go_simp) (by go_simp; rfl) (R.b.thereA HX2.out) (info_dA HX2.out) (one_d X2) (R.two HX2.out).p ?_
          refine Hash.gen_world (Pq := fun W => Ph w W old x g14 g15 X1 X2 vr kr L) (G := fun W => RegC.anyT _ _ _ _ _ _ _ _ _ W) (R.two HX2.out) ?_
          clear R
          intro w9 R
          refine RegC.done (by kernel_rfl) ?_
          exact Eq.mp (by kernel_rfl) (cont ⟨g14, g15, vr, kr⟩ _ R)
      · refine RegC.cons rfl (fun K hK => ?_) RegC.nil
        go_simp
        have fa15 := Y.l.lt
        refine hK _ _ ⟨fun _ => Y.on (Wire.b1 _ _), ?_⟩
        refine Hash.gen_world (Pq := fun W => Pg w W old zero zero x ∧ Dg W w4.heap.size zero) (G := fun W => RegC.anyT _ _ _ _ _ _ _ _ _ W) ⟨Y.on (Wire.b1 _ _), dg_zero _ _⟩ ?_
        clear Y hK K
        intro w5 hw
        obtain ⟨Y, D15⟩ := hw
        generalize w4.heap.size = g15 at *
        refine RegC.ready (rs := [9, 14]) (by kernel_rfl) (by simp) ?_
        refine RegC.cons rfl (fun K hK => ?_) ?_
        · go_simp
          have bsz := Y.l.lt
          go_wp2_with (go_at_call 26; (with_reducible refine (HC.out _ Y.p.z).mono ?_); rintro e wc ⟨vr, kr, rfl, ho, hb⟩; have HOW := Lib.hid ho; have csz := hb.size; replace Y := Y.on hb; have cb15 := D15.lt; replace D15 := D15.on hb; clear ho)
          refine ⟨fun _ => Y, ?_⟩
          (refine RegC.take (i := 10) (v := ?_) rfl (by kernel_rfl) (by kernel_rfl) (by kernel_rfl) (by kernel_rfl) (by kernel_rfl) (fun _ _ _ h => hQ _ _ _ _ _ h) (Or.inl ⟨by rfl, ?_⟩) Y ?_; rotate_left 1; focus (intro W hW; go_simp; try (first | with_reducible rfl | (rw [if_pos (by omega)]; done) | (rw [if_pos (by omega), if_neg (by omega)]; done) | (rw [if_neg (by omega)]; done))))
          (refine RegC.take (i := 11) (v := ?_) rfl (by kernel_rfl) (by kernel_rfl) (by kernel_rfl) (by kernel_rfl) (by kernel_rfl) (fun _ _ _ h => hQ _ _ _ _ _ h) (Or.inl ⟨by rfl, ?_⟩) Y ?_; rotate_left 1; focus (intro W hW; go_simp; try (first | with_reducible rfl | (rw [if_pos (by omega)]; done) | (rw [if_pos (by omega), if_neg (by omega)]; done) | (rw [if_neg (by omega)]; done))))
          (refine RegC.take (i := 12) (v := ?_) rfl (by kernel_rfl) (by kernel_rfl) (by kernel_rfl) (by kernel_rfl) (by kernel_rfl) (fun _ _ _ h => hQ _ _ _ _ _ h) (Or.inl ⟨by rfl, ?_⟩) Y ?_; rotate_left 1; focus (intro W hW; go_simp; try (first | with_reducible rfl | (rw [if_pos (by omega)]; done) | (rw [if_pos (by omega), if_neg (by omega)]; done) | (rw [if_neg (by omega)]; done))))
          (refine RegC.take (i := 13) (v := ?_) rfl (by kernel_rfl) (by kernel_rfl) (by kernel_rfl) (by kernel_rfl) (by kernel_rfl) (fun _ _ _ h => hQ _ _ _ _ _ h) (Or.inl ⟨by rfl, ?_⟩) Y ?_; rotate_left 1; focus (intro W hW; go_simp; try (first | with_reducible rfl | (rw [if_pos (by omega)]; done) | (rw [if_pos (by omega), if_neg (by omega)]; done) | (rw [if_neg (by omega)]; done))))
          have M := Mid.refl w5.heap.size wc.heap.size wc
          refine Hash.gen_world (Pq := fun W => Pg w W old zero zero x ∧ Dg W g15 zero ∧ Mid w5.heap.size wc.heap.size wc W) (G := fun W => RegC.anyT _ _ _ _ _ _ _ _ _ W) ⟨Y, D15, M⟩ ?_
          clear Y M D15
          intro w6 hw
          obtain ⟨Y, D15, M⟩ := hw
          refine RegC.ready (rs := [14]) (by kernel_rfl) (by simp) ?_
          refine RegC.cons rfl (fun K hK => ?_) RegC.nil
          go_simp
          have fa14 := Y.l.lt
          have na15 := D15.lt
          have ta14 := M.size
          refine hK _ _ ⟨fun _ => Y.on (Wire.b1 _ _), ?_⟩
          refine Hash.gen_world (Pq := fun W => Pg w W old zero zero x ∧ Dg W g15 zero ∧ Dg W w6.heap.size zero ∧ Mid w5.heap.size wc.heap.size wc W) (G := fun W => RegC.anyT _ _ _ _ _ _ _ _ _ W) ⟨Y.on (Wire.b1 _ _), D15.on (Wire.b1 _ _), dg_zero _ _, M.on M.size (Wire.b1 _ _)⟩ ?_
          clear Y D15 M hK K
          intro w7 hw
          obtain ⟨Y, D15, D14, M⟩ := hw
          generalize w6.heap.size = g14 at *
          clear hq2 hle hmost
          have R : Rmm w w5 wc w7 old x g14 g15 zero zero vr kr L := ⟨Y, D14, D15, by omega, by omega, by omega, HOW.out, by omega, by omega, by omega, M⟩
          (refine RegC.take (i := 16) (v := ?_) rfl (by kernel_rfl) (by kernel_rfl) (by kernel_rfl) (by kernel_rfl) (by kernel_rfl) (fun _ _ _ h => hQ _ _ _ _ _ h) (Or.inl ⟨by rfl, ?_⟩) Y ?_; rotate_left 1; focus (intro W hW; go_simp; try (first | with_reducible rfl | (rw [if_pos (by omega)]; done) | (rw [if_pos (by omega), if_neg (by omega)]; done) | (rw [if_neg (by omega)]; done))))
          clear Y D14 D15 M
          refine RegC.store1 17 (by kernel_rfl) rfl rfl 29 (.tmp 16) (.tmp 65) rfl g14 0 (X1.map bv).toArray (by go_simp) (by go_simp; rfl) (R.a.thereA HX1.out) (info_dA HX1.out) (one_d X1) (R.one HX1.out).p ?_
          refine Hash.gen_world (Pq := fun W => Rmm w w5 wc W old x g14 g15 X1 zero vr kr L) (G := fun W => RegC.anyT _ _ _ _ _ _ _ _ _ W) (R.one HX1.out) ?_
          clear R
          intro w8 R
          refine RegC.store1 18 (by kernel_rfl) rfl rfl 29 (.tmp 17) (.tmp 66) rfl g15 0 (X2.map bv).toArray (by go_simp) (by go_simp; rfl) (R.b.thereA HX2.out) (info_dA HX2.out) (one_d X2) (R.two HX2.out).p ?_
          refine Hash.gen_world (Pq := fun W => Ph w W old x g14 g15 X1 X2 vr kr L) (G := fun W => RegC.anyT _ _ _ _ _ _ _ _ _ W) (R.two HX2.out) ?_
          clear R
          intro w9 R
          refine RegC.done (by kernel_rfl) ?_
          exact Eq.mp (by kernel_rfl) (cont ⟨g14, g15, vr, kr⟩ _ R)
        · refine RegC.cons rfl (fun K hK => ?_) RegC.nil
          go_simp
          have fa14 := Y.l.lt
          have na15 := D15.lt
          refine hK _ _ ⟨fun _ => Y.on (Wire.b1 _ _), ?_⟩
          refine Hash.gen_world (Pq := fun W => Pg w W old zero zero x ∧ Dg W g15 zero ∧ Dg W w5.heap.size zero) (G := fun W => RegC.anyT _ _ _ _ _ _ _ _ _ W) ⟨Y.on (Wire.b1 _ _), D15.on (Wire.b1 _ _), dg_zero _ _⟩ ?_
          clear Y D15 hK K
          intro w6 hw
          obtain ⟨Y, D15, D14⟩ := hw
          generalize w5.heap.size = g14 at *
          refine RegC.ready (rs := [9]) (by kernel_rfl) (by simp) ?_
          refine RegC.cons rfl (fun K hK => ?_) RegC.nil
          go_simp
          have bsz := Y.l.lt
          go_wp2_with (go_at_call 26; (with_reducible refine (HC.out _ Y.p.z).mono ?_); rintro e wc ⟨vr, kr, rfl, ho, hb⟩; have HOW := Lib.hid ho; have csz := hb.size; replace Y := Y.on hb; have cb14 := D14.lt; replace D14 := D14.on hb; have cb15 := D15.lt; replace D15 := D15.on hb; clear ho)
          refine ⟨fun _ => Y, ?_⟩
          (refine RegC.take (i := 10) (v := ?_) rfl (by kernel_rfl) (by kernel_rfl) (by kernel_rfl) (by kernel_rfl) (by kernel_rfl) (fun _ _ _ h => hQ _ _ _ _ _ h) (Or.inl ⟨by rfl, ?_⟩) Y ?_; rotate_left 1; focus (intro W hW; go_simp; try (first | with_reducible rfl | (rw [if_pos (by omega)]; done) | (rw [if_pos (by omega), if_neg (by omega)]; done) | (rw [if_neg (by omega)]; done))))
          (refine RegC.take (i := 11) (v := ?_) rfl (by kernel_rfl) (by kernel_rfl) (by kernel_rfl) (by kernel_rfl) (by kernel_rfl) (fun _ _ _ h => hQ _ _ _ _ _ h) (Or.inl ⟨by rfl, ?_⟩) Y ?_; rotate_left 1; focus (intro W hW; go_simp; try (first | with_reducible rfl | (rw [if_pos (by omega)]; done) | (rw [if_pos (by omega), if_neg (by omega)]; done) | (rw [if_neg (by omega)]; done))))
          (refine RegC.take (i := 12) (v := ?_) rfl (by kernel_rfl) (by kernel_rfl) (by kernel_rfl) (by kernel_rfl) (by kernel_rfl) (fun _ _ _ h => hQ _ _ _ _ _ h) (Or.inl ⟨by rfl, ?_⟩) Y ?_; rotate_left 1; focus (intro W hW; go_simp; try (first | with_reducible rfl | (rw [if_pos (by omega)]; done) | (rw [if_pos (by omega), if_neg (by omega)]; done) | (rw [if_neg (by omega)]; done))))
          (refine RegC.take (i := 13) (v := ?_) rfl (by kernel_rfl) (by kernel_rfl) (by kernel_rfl) (by kernel_rfl) (by kernel_rfl) (fun _ _ _ h => hQ _ _ _ _ _ h) (Or.inl ⟨by rfl, ?_⟩) Y ?_; rotate_left 1; focus (intro W hW; go_simp; try (first | with_reducible rfl | (rw [if_pos (by omega)]; done) | (rw [if_pos (by omega), if_neg (by omega)]; done) | (rw [if_neg (by omega)]; done))))
          have M := Mid.refl w6.heap.size wc.heap.size wc
          refine Hash.gen_world (Pq := fun W => Pg w W old zero zero x ∧ Dg W g14 zero ∧ Dg W g15 zero ∧ Mid w6.heap.size wc.heap.size wc W) (G := fun W => RegC.anyT _ _ _ _ _ _ _ _ _ W) ⟨Y, D14, D15, M⟩ ?_
          clear Y M D14 D15
          intro w7 hw
          obtain ⟨Y, D14, D15, M⟩ := hw
          clear hq2 hle hmost
          have R : Rmm w w6 wc w7 old x g14 g15 zero zero vr kr L := ⟨Y, D14, D15, by omega, by omega, by omega, HOW.out, by omega, by omega, by omega, M⟩
          (refine RegC.take (i := 16) (v := ?_) rfl (by kernel_rfl) (by kernel_rfl) (by kernel_rfl) (by kernel_rfl) (by kernel_rfl) (fun _ _ _ h => hQ _ _ _ _ _ h) (Or.inl ⟨by rfl, ?_⟩) Y ?_; rotate_left 1; focus (intro W hW; go_simp; try (first | with_reducible rfl | (rw [if_pos (by omega)]; done) | (rw [if_pos (by omega), if_neg (by omega)]; done) | (rw [if_neg (by omega)]; done))))
          clear Y D14 D15 M
          refine RegC.store1 17 (by kernel_rfl) rfl rfl 29 (.tmp 16) (.tmp 65) rfl g14 0 (X1.map bv).toArray (by go_simp) (by go_simp; rfl) (R.a.thereA HX1.out) (info_dA HX1.out) (one_d X1) (R.one HX1.out).p ?_
          refine Hash.gen_world (Pq := fun W => Rmm w w6 wc W old x g14 g15 X1 zero vr kr L) (G := fun W => RegC.anyT _ _ _ _ _ _ _ _ _ W) (R.one HX1.out) ?_
          clear R
          intro w8 R
          refine RegC.store1 18 (by kernel_rfl) rfl rfl 29 (.tmp 17) (.tmp 66) rfl g15 0 (X2.map bv).toArray (by go_simp) (by go_simp; rfl) (R.b.thereA HX2.out) (info_dA HX2.out) (one_d X2) (R.two HX2.out).p ?_
          refine Hash.gen_world (Pq := fun W => Ph w W old x g14 g15 X1 X2 vr kr L) (G := fun W => RegC.anyT _ _ _ _ _ _ _ _ _ W) (R.two HX2.out) ?_
          clear R
          intro w9 R
          refine RegC.done (by kernel_rfl) ?_
          exact Eq.mp (by kernel_rfl) (cont ⟨g14, g15, vr, kr⟩ _ R)
  · intro i W R0
    obtain ⟨g16, g17, vr, kr⟩ := i
    have Y0 : Ph w W old x g16 g17 X1 X2 vr kr L := R0
    clear R0 Y HC HSP e5 hq2 hle hmost
    have HTX : Hid (∀ W, Calls Tryd.prog 53 #[.agg (X2.map bv).toArray] W (Hash.GivesT X2 W)) := Lib.hid (fun W => Hash.text_any X2 W HX2.out)
    have HTY : Hid (∀ W, Calls Tryd.prog 53 #[.agg (x.map bv).toArray] W (Hash.GivesT x W)) := Lib.hid (fun W => Hash.text_any x W HX.out)
    have HI : Hid (∀ W, Calls Tryd.prog 52 #[.int .i64 2, .slice (some ⟨W.heap.size, 0, none⟩) 2 2] (W.alloc (.cells #[.string ⟨X2.toArray⟩, .string ⟨x.toArray⟩] 9)) (Wire.Made W (HH.ni X2 x).length (HH.ni X2 x))) := Lib.hid (fun W => refInput_lit2 2 X2 x HX2.out HX.out W)
    have HIL : Hid ((HH.ni X2 x).length ≤ 1000000) := Lib.hid (ofIn_two HX2.out HX.out)
    have HDL := Lib.hid (sh_length (HH.ni X2 x))
    have HSH0 := Lib.hid (fun W g2 c5 (h : Lies W W.heap.size 1 (some ⟨g2, 0, none⟩) (HH.ni X2 x).length c5 ((HH.ni X2 x).map bv)) hT => refShort_any (HH.ni X2 x) (HH.ni X2 x).length c5 _ W h HIL.out hT)
    generalize HH.sh (HH.ni X2 x) = D at *
    generalize HH.ni X2 x = N at *
    go_wp2
    refine QTail.region (C := fun W => Ph w W old x g16 g17 X1 X2 vr kr L) 4 (by kernel_rfl) (by kernel_rfl) (Y0.on (Hash.belowD _)) ?_
    refine QTail.loadC (by rfl) 29 (.tmp 17) rfl g17 0 (by go_simp) (X2.map bv) _ (fun W h => h.b.range) und_d rfl (info_d HX2.out) ?_
    (refine wpQuiet_step (fun K hK => ?_); go_simp; refine ⟨_, fun W hW => (HTX.out W).mono fun e w' ⟨he, hb⟩ => ⟨he, hW.on hb⟩, hK _ ?_⟩; clear hK K)
    refine QTail.loadC (by rfl) 29 (.tmp 13) rfl (w.heap.size + 1 + 1 + 1) 0 (by go_simp) (x.map bv) _ (fun W h => h.p.l.range) und_d rfl (info_d HX.out) ?_
    (refine wpQuiet_step (fun K hK => ?_); go_simp; refine ⟨_, fun W hW => (HTY.out W).mono fun e w' ⟨he, hb⟩ => ⟨he, hW.on hb⟩, hK _ ?_⟩; clear hK K)
    refine wpQuiet_nil ?_
    clear Y0
    intro w9 Y
    simp only [List.drop_succ_cons, List.drop_zero]
    have fin : ∀ w6 (v6 : Value) g6 c6, OwnT w6 w.heap.size v6 (kr + 1) (L ++ [N]) → Pf w w6 old zero zero → Dg w6 g16 X1 → Mem w6 w.heap.size N (.slice (some ⟨g6, 0, none⟩) N.length c6) → True := fun _ _ _ _ _ _ _ _ => trivial
    clear fin
    have hkr := Y.own.len
    have HKR := Lib.hid hkr
    clear hkr
    have HLE : Hid (kr + 1 ≤ 1099511627776) := Lib.hid (by have := HLL.out; have := HKR.out; omega)
    go_wp2_with (first
      | (go_at_call 52; (with_reducible refine (HI.out _).mono ?_); rintro e wa h2; obtain ⟨g6, c6, rfl, hm, hb⟩ := made_mem h2; have HM := Lib.hid (hm.more (Nat.succ_le_of_lt Y.p.l.lt)); replace Y := Y.on hb; clear hb hm h2)
      | (at_builtin; refine append_tw rfl _ _ rfl (w.heap.size + 4) vr kr L rfl (Y.own.on (Wire.b1 _ _)) ⟨wa.heap.size, 0, none⟩ 1 1 rfl [N] [.slice (some ⟨g6, 0, none⟩) N.length c6] rfl rfl (Wire.fresh_one wa _ _) (one_mem (HM.out.on (Wire.b1 _ _))) HLE.out (Nat.le_trans (Nat.succ_le_of_lt Y.p.l.lt) (Wire.b1 _ _).size) ?_; intro v6 w6 ho6 hb6 hg6 hme; have HAF := (Y.on (Wire.b1 wa _)).after hg6 hb6; refine Hash.gen_world (Pq := fun W => Pe w W old X1 N g16 g6 c6 v6 (kr + 1) (L ++ [N])) (G := fun W => wpList _ _ _ _ _ W) ⟨ho6, HAF.1, HAF.2, hme _ _ (HM.out.on (Wire.b1 _ _))⟩ ?_; clear Y HAF ho6 hb6 hg6 hme; intro w7 Y))
    have SH : Hid (∀ W, Pe w W old X1 N g16 g6 c6 v6 (kr + 1) (L ++ [N]) → Calls Tryd.prog 47 #[.slice (some ⟨g6, 0, none⟩) N.length c6] W (GivesD D W)) := Lib.hid (fun W h => HSH0.out W g6 c6 h.lies (HTT.out.on h.f.z))
    replace Y := Y.on (Hash.belowD _)
    refine RegC.region (fun W => Pe w W old X1 N g16 g6 c6 v6 (kr + 1) (L ++ [N])) [5, 6] (by kernel_rfl) ?_
    (refine RegC.take (i := 0) (v := ?_) rfl (by kernel_rfl) (by kernel_rfl) (by kernel_rfl) (by kernel_rfl) (by kernel_rfl) (fun _ _ _ h => h) (Or.inl ⟨by rfl, ?_⟩) Y ?_; rotate_left 1; focus (intro W hW; go_simp; try (first | with_reducible rfl | (rw [if_pos (by omega)]; done) | (rw [if_pos (by omega), if_neg (by omega)]; done) | (rw [if_neg (by omega)]; done))))
    (refine RegC.take (i := 1) (v := (.agg (X1.map bv).toArray)) rfl (by kernel_rfl) (by kernel_rfl) (by kernel_rfl) (by kernel_rfl) (by kernel_rfl) (fun _ _ _ h => h) (Or.inl ⟨by rfl, fun W hW => ?_⟩) Y ?_; focus (exact RegC.exec_rowC 29 (.tmp 16) rfl g16 0 (by go_simp) (X1.map bv) _ hW.a.range und_d rfl (info_d HX1.out)))
    (refine RegC.take (i := 2) (v := ?_) rfl (by kernel_rfl) (by kernel_rfl) (by kernel_rfl) (by kernel_rfl) (by kernel_rfl) (fun _ _ _ h => h) (Or.inl ⟨by rfl, ?_⟩) Y ?_; rotate_left 1; focus (intro W hW; go_simp; try (first | with_reducible rfl | (rw [if_pos (by omega)]; done) | (rw [if_pos (by omega), if_neg (by omega)]; done) | (rw [if_neg (by omega)]; done))))
    refine RegC.ready (rs := [3]) (by kernel_rfl) (by simp) ?_
    refine RegC.cons rfl (fun K hK => ?_) RegC.nil
    go_simp
    go_wp2_with (go_at_call 47; (with_reducible refine (SH.out _ Y).mono ?_); rintro e w8 ⟨rfl, hb⟩; replace Y := Y.on hb; clear hb)
    refine ⟨fun _ => Y, ?_⟩
    (refine RegC.take (i := 4) (v := ?_) rfl (by kernel_rfl) (by kernel_rfl) (by kernel_rfl) (by kernel_rfl) (by kernel_rfl) (fun _ _ _ h => h) (Or.inl ⟨by rfl, ?_⟩) Y ?_; rotate_left 1; focus (intro W hW; go_simp; try (first | with_reducible rfl | (rw [if_pos (by omega)]; done) | (rw [if_pos (by omega), if_neg (by omega)]; done) | (rw [if_neg (by omega)]; done))))
    refine RegC.rest (by kernel_rfl) ?_
    refine wpAny_tail 5 2 rfl (by kernel_rfl) ?_
    simp only [List.drop_succ_cons, List.drop_zero]
    have lt1 : w.heap.size + 1 < w.heap.size + 4 := by omega
    have lt2 : w.heap.size + 1 + 1 < w.heap.size + 4 := by omega
    go_wp2_with (first
      | (refine store_d (.tmp 11) (.tmp 78) rfl rfl (w.heap.size + 1) 0 rfl X1 rfl HX1.out Y.f.x.there ?_; refine Hash.gen_world (Pq := fun W => OwnT W (w.heap.size + 4) v6 (kr + 1) (L ++ [N]) ∧ Pf w W old X1 zero) (G := fun W => wpList _ _ _ _ _ W) ⟨OwnT.mid Y.own ((Mid.refl _ _ w8).cells (.inl lt1) _ _), Y.f.p1 HX1.out⟩ ?_; clear Y; intro w9 Y)
      | (refine store_d (.tmp 12) (.tmp 80) rfl rfl (w.heap.size + 1 + 1) 0 rfl D rfl HDL.out Y.2.y.there ?_; refine Hash.gen_world (Pq := fun W => OwnT W (w.heap.size + 4) v6 (kr + 1) (L ++ [N]) ∧ Pf w W old X1 D) (G := fun W => wpList _ _ _ _ _ W) ⟨OwnT.mid Y.1 ((Mid.refl _ _ w9).cells (.inl lt2) _ _), Y.2.p2 HDL.out⟩ ?_; clear Y; intro w10 Y))
    have HXX := load_end Y.2.x
    have HYY : (loadVar 29 ⟨w.heap.size + 1 + 1, 0, none⟩).run Tryd.prog w10 = .ok (dv D) w10 := load_end Y.2.y
    refine bodyPost_ret (v := .tuple #[v6, dv X1, dv D]) ?_ rfl ⟨_, _, rfl, Y.1.more (by omega), Y.2.z⟩
    simp [results, Tryd.results26, asAddr, Act.put]
    rw [HXX, Result.andThen_ok, HYY]
    rfl
end Mk
end Go.Proofs.YthpkeaafgabjiaaDoor

/- The reference of package merkle: PrefixInputs where it goes on, in the upper part. Conditions: the slice reads as a list of digests, the tables are laid. -/
namespace Go.Proofs.YthpkeaafgabjiaaDoor
open Go.RowKit
namespace Mk
open Wire (bv sv Lies)
open Hash (bcj)

theorem fresh_two (w : World) (x y : Value) (t : TypeId) : ∀ (j : Nat) (u : Value), [x, y][j]? = some u → (w.alloc (.cells #[x, y] t)).cell? ((⟨w.heap.size, 0, none⟩ : Addr).add j) = some u := fun j u h => by
  have := (Hash.arr_new w #[x, y] t).range j u h
  rw [Nat.zero_add] at this
  rcases Nat.eq_zero_or_pos j with rfl | hj
  · exact this
  · rw [show ((⟨w.heap.size, 0, none⟩ : Addr).add j) = ⟨w.heap.size, j, none⟩ by simp [Addr.add, Nat.ne_of_gt hj]]
    exact this
theorem two_mem {w : World} {base : Nat} {y z : List UInt8} {u v : Value} (h : Mem w base y u) (h2 : Mem w base z v) : ∀ (i : Nat) (t : List UInt8), [y, z][i]? = some t → ∃ u', [u, v][i]? = some u' ∧ Mem w base t u' := fun i t ht => by
  match i with
  | 0 => cases ht; exact ⟨u, rfl, h⟩
  | 1 => cases ht; exact ⟨v, rfl, h2⟩
  | i + 2 => simp at ht
/-- And a text of one's own. -/
structure PhM (w W : World) (old x : List UInt8) (g g' : Nat) (X Y : List UInt8) (v : Value) (k : Nat) (L : List (List UInt8)) (N : List UInt8) (g5 c5 : Nat) : Prop where
  p : Ph w W old x g g' X Y v k L
  m : Mem W (w.heap.size + 4) N (.slice (some ⟨g5, 0, none⟩) N.length c5)
/-- Behind the append. -/
structure PhZ (w W : World) (old N N2 : List UInt8) (g5 c5 g6 c6 : Nat) (v : Value) (k : Nat) (L : List (List UInt8)) : Prop where
  own : OwnT W (w.heap.size + 4) v k L
  f : Pf w W old zero zero
  m : Mem W (w.heap.size + 4) N (.slice (some ⟨g5, 0, none⟩) N.length c5)
  m2 : Mem W (w.heap.size + 4) N2 (.slice (some ⟨g6, 0, none⟩) N2.length c6)
section
variable {w W W' : World} {old x X Y N N2 : List UInt8} {g g' g5 c5 g6 c6 k : Nat} {v : Value} {L : List (List UInt8)}
theorem PhM.on (h : PhM w W old x g g' X Y v k L N g5 c5) (hb : Below W.heap.size W W') : PhM w W' old x g g' X Y v k L N g5 c5 := ⟨h.p.on hb, h.m.on hb⟩
theorem PhZ.on (h : PhZ w W old N N2 g5 c5 g6 c6 v k L) (hb : Below W.heap.size W W') : PhZ w W' old N N2 g5 c5 g6 c6 v k L := ⟨h.own.on hb, h.f.on hb, h.m.on hb, h.m2.on hb⟩
theorem mem_own {base : Nat} (h : Mem W base N (.slice (some ⟨g5, 0, none⟩) N.length c5)) : Lies W W.heap.size 1 (some ⟨g5, 0, none⟩) N.length c5 (N.map bv) := by
  obtain ⟨g, c, e, ho⟩ := h
  cases e
  exact Wire.lies_own ho
end

set_option maxRecDepth 100000 in
set_option maxHeartbeats 8000000 in
theorem refPfx_high (old : List UInt8) (ho : old.length = 16) (m n k q c : Nat) (whole : Bool) (A : Option Addr) (p : List (List UInt8)) (x X1 X2 : List UInt8) (L : List (List UInt8)) (w : World) (hl : LiesD w w.heap.size A (q + 1) c p) (hx : p[q]? = some x) (ht : TT w)
    (hmn : ¬ m = n) (hm : m ≤ n) (hn : n ≤ 9223372036854775807) (hk : k = split n) (h2 : 2 ≤ n) (hmk : ¬ m ≤ k) (hX1 : X1.length = 16) (hX2 : X2.length = 16) (hL : L.length ≤ 2000000) (hq : q ≤ 1000000)
    (hc : ∀ W, Below w.heap.size w W → Calls Tryd.prog 26 #[dv old, .int .i64 ((m - k : Nat) : Int), .int .i64 ((n - k : Nat) : Int), .bool false, .slice A q c] W (GivesFx L X1 X2 W)) :
    Calls Tryd.prog 26 #[dv old, .int .i64 (m : Int), .int .i64 (n : Int), .bool whole, .slice A (q + 1) c] w (GivesFx (L ++ [HH.ni x X1, HH.ni x X2]) (HH.sh (HH.ni x X1)) (HH.sh (HH.ni x X2)) w) := by
  have HLL := Lib.hid hL
  obtain ⟨d, hd⟩ : ∃ d, d = m - k := ⟨_, rfl⟩
  obtain ⟨f, hf⟩ : ∃ f, f = n - k := ⟨_, rfl⟩
  have z6 : (m : Int) - (k : Int) = (d : Int) := by omega
  have z8 : (n : Int) - (k : Int) = (f : Int) := by omega
  have E7 : Hid (IntKind.i64.wrap (d : Int) = (d : Int)) := Lib.hid (wrapI (by omega))
  have E8 : Hid (IntKind.i64.wrap (f : Int) = (f : Int)) := Lib.hid (wrapI (by omega))
  rw [← hd, ← hf] at hc
  clear hd hf hm
  have hq2 : q ≤ 9223372036854775807 := Nat.le_trans hq (by decide)
  clear hL hq
  have hmost : c ≤ 9223372036854775807 := by have := hl.lies.most; unfold maxLen at this; omega
  have hle := hl.lies.le
  obtain ⟨b, o, rfl, hbb, hrx⟩ := hl.row hx
  have HO := Lib.hid ho
  have HX := Lib.hid (hl.ok.at_ hx)
  have HC : Hid (∀ W, Below w.heap.size w W → Calls Tryd.prog 26 #[.agg (old.map bv).toArray, .int .i64 (d : Int), .int .i64 (f : Int), .bool false, .slice (some ⟨b, o, none⟩) q c] W (GivesFx L X1 X2 W)) := Lib.hid hc
  have HTT := Lib.hid ht
  have HSP := Lib.hid (fun W => refSplit_any n h2 hn W)
  rw [← hk] at HSP
  have HRX : Hid (∀ W, Below w.heap.size w W → W.rangeAt b (o + q * 16) (x.map bv)) := Lib.hid (fun W h j u hu => (h.cell (by show b < w.heap.size; exact hbb)).trans (hrx j u hu))
  have Y := pf_new w ho 29
  have e1 : (((q + 1 : Nat) : Int) == 0) = false := by simp; omega
  have e2 : ¬ ((q + 1 : Nat) : Int) = 0 := by omega
  have e3 : ((q + 1 : Nat) : Int) - 1 = (q : Int) := by omega
  have e4 : wrap64 (q : Int) = (q : Int) := by simp only [wrap64]; omega
  have e6 : ¬ q + 1 = 0 := Nat.succ_ne_zero q
  have z0 : ¬ (m : Int) ≤ (k : Int) := fun h => hmk (Int.ofNat_le.1 h)
  have z1 : ¬ (m : Int) = (n : Int) := fun h => hmn (Int.ofNat.inj h)
  have HS : Hid (∀ A B C : Obj, (((w.alloc A).alloc B).alloc C).heap.size = w.heap.size + 3) := Lib.hid (fun A B C => by rw [World.size_alloc, World.size_alloc, World.size_alloc])
  have HX1 := Lib.hid hX1
  have HX2 := Lib.hid hX2
  have e5 : IntKind.i64.wrap (q : Int) = (q : Int) := wrapI hq2
  clear hl hx hrx ho hc ht hk hX1 hX2
  unfold dv
  go_enter Tryd.func26, Tryd.ntmps26
  go_wp2_with (first
    | (refine load_d 42 rfl rfl _ rfl b (o + q * 16) rfl x HX.out (HRX.out _ Y.z) ?_)
    | (refine store_d (.tmp 13) (.tmp 42) rfl rfl (w.heap.size + 1 + 1 + 1) 0 rfl x rfl HX.out (pg_room Y (HS.out _ _ _) _).l.there ?_; refine Hash.gen_world (Pq := fun W => Pg w W old zero zero x) (G := fun W => wpList _ _ _ _ _ W) ((pg_room Y (HS.out _ _ _) _).put HX.out) ?_; clear Y; intro W2 Y)
    | (go_at_call 36; (with_reducible refine (HSP.out _).mono ?_); rintro e w3 ⟨rfl, hb⟩; replace Y := Y.on hb; clear hb))
  replace Y := Y.on (Hash.belowD _)
  have e7 := E7.out
  have e8 := E8.out
  refine RegC.regionJ (ι := Nat × Nat × Value × Nat) (fun W => Pg w W old zero zero x) [] (fun i W => Ph w W old x i.1 i.2.1 X1 X2 i.2.2.1 i.2.2.2 L)
    (fun a i => ((((((((((((((((((((a.put (some 82) (.agg (old.map bv).toArray)).put (some 83) (.int .i64 (m : Int))).put (some 84) (.int .i64 (k : Int))).put (some 85) (.int .i64 (d : Int))).put (some 86) (.int .i64 (n : Int))).put (some 87) (.int .i64 (k : Int))).put (some 88) (.int .i64 (f : Int))).put (some 89) (.slice (some ⟨b, o, none⟩) (q + 1) c)).put (some 90) (.slice (some ⟨b, o, none⟩) (q + 1) c)).put (some 91) (.int .i64 ((q + 1 : Nat) : Int))).put (some 92) (.int .i64 (q : Int))).put (some 93) (.slice (some ⟨b, o, none⟩) q c)).put (some 94) (.tuple #[i.2.2.1, dv X1, dv X2])).put (some 81) (.tuple #[i.2.2.1, dv X1, dv X2])).put (some 95) i.2.2.1).put (some 96) (dv X1)).put (some 97) (dv X2)).put (some 20) (.pointer (some ⟨i.1, 0, none⟩))).put (some 21) (.pointer (some ⟨i.2.1, 0, none⟩))).put (some 19) i.2.2.1)) (by kernel_rfl) (fun _ _ d _ _ h => by cases d <;> exact h) ?_ ?_
  · intro Q' hQ cont
    have sz := Y.l.lt
    (refine RegC.take (i := 0) (v := (.agg (old.map bv).toArray)) rfl (by kernel_rfl) (by kernel_rfl) (by kernel_rfl) (by kernel_rfl) (by kernel_rfl) (fun _ _ _ h => hQ _ _ _ _ _ h) (Or.inl ⟨by rfl, fun W hW => ?_⟩) Y ?_; focus (exact RegC.exec_rowC 29 (.tmp 5) rfl w.heap.size 0 (by go_simp) (old.map bv) _ hW.p.o.range und_d rfl (info_d HO.out)))
    (refine RegC.take (i := 1) (v := ?_) rfl (by kernel_rfl) (by kernel_rfl) (by kernel_rfl) (by kernel_rfl) (by kernel_rfl) (fun _ _ _ h => hQ _ _ _ _ _ h) (Or.inl ⟨by rfl, ?_⟩) Y ?_; rotate_left 1; focus (intro W hW; go_simp; try (first | with_reducible rfl | (rw [if_pos (by omega)]; done) | (rw [if_pos (by omega), if_neg (by omega)]; done) | (rw [if_neg (by omega)]; done))))
    (refine RegC.take (i := 2) (v := ?_) rfl (by kernel_rfl) (by kernel_rfl) (by kernel_rfl) (by kernel_rfl) (by kernel_rfl) (fun _ _ _ h => hQ _ _ _ _ _ h) (Or.inl ⟨by rfl, ?_⟩) Y ?_; rotate_left 1; focus (intro W hW; go_simp; try (first | with_reducible rfl | (rw [if_pos (by omega)]; done) | (rw [if_pos (by omega), if_neg (by omega)]; done) | (rw [if_neg (by omega)]; done))))
    (refine RegC.take (i := 3) (v := ?_) rfl (by kernel_rfl) (by kernel_rfl) (by kernel_rfl) (by kernel_rfl) (by kernel_rfl) (fun _ _ _ h => hQ _ _ _ _ _ h) (Or.inl ⟨by rfl, ?_⟩) Y ?_; rotate_left 1; focus (intro W hW; go_simp; try (first | with_reducible rfl | (rw [if_pos (by omega)]; done) | (rw [if_pos (by omega), if_neg (by omega)]; done) | (rw [if_neg (by omega)]; done))))
    (refine RegC.take (i := 4) (v := ?_) rfl (by kernel_rfl) (by kernel_rfl) (by kernel_rfl) (by kernel_rfl) (by kernel_rfl) (fun _ _ _ h => hQ _ _ _ _ _ h) (Or.inl ⟨by rfl, ?_⟩) Y ?_; rotate_left 1; focus (intro W hW; go_simp; try (first | with_reducible rfl | (rw [if_pos (by omega)]; done) | (rw [if_pos (by omega), if_neg (by omega)]; done) | (rw [if_neg (by omega)]; done))))
    (refine RegC.take (i := 5) (v := ?_) rfl (by kernel_rfl) (by kernel_rfl) (by kernel_rfl) (by kernel_rfl) (by kernel_rfl) (fun _ _ _ h => hQ _ _ _ _ _ h) (Or.inl ⟨by rfl, ?_⟩) Y ?_; rotate_left 1; focus (intro W hW; go_simp; try (first | with_reducible rfl | (rw [if_pos (by omega)]; done) | (rw [if_pos (by omega), if_neg (by omega)]; done) | (rw [if_neg (by omega)]; done))))
    (refine RegC.take (i := 6) (v := ?_) rfl (by kernel_rfl) (by kernel_rfl) (by kernel_rfl) (by kernel_rfl) (by kernel_rfl) (fun _ _ _ h => hQ _ _ _ _ _ h) (Or.inl ⟨by rfl, ?_⟩) Y ?_; rotate_left 1; focus (intro W hW; go_simp; try (first | with_reducible rfl | (rw [if_pos (by omega)]; done) | (rw [if_pos (by omega), if_neg (by omega)]; done) | (rw [if_neg (by omega)]; done))))
    (refine RegC.take (i := 7) (v := ?_) rfl (by kernel_rfl) (by kernel_rfl) (by kernel_rfl) (by kernel_rfl) (by kernel_rfl) (fun _ _ _ h => hQ _ _ _ _ _ h) (Or.inl ⟨by rfl, ?_⟩) Y ?_; rotate_left 1; focus (intro W hW; go_simp; try (first | with_reducible rfl | (rw [if_pos (by omega)]; done) | (rw [if_pos (by omega), if_neg (by omega)]; done) | (rw [if_neg (by omega)]; done))))
    (refine RegC.take (i := 8) (v := ?_) rfl (by kernel_rfl) (by kernel_rfl) (by kernel_rfl) (by kernel_rfl) (by kernel_rfl) (fun _ _ _ h => hQ _ _ _ _ _ h) (Or.inl ⟨by rfl, ?_⟩) Y ?_; rotate_left 1; focus (intro W hW; go_simp; try (first | with_reducible rfl | (rw [if_pos (by omega)]; done) | (rw [if_pos (by omega), if_neg (by omega)]; done) | (rw [if_neg (by omega)]; done))))
    (refine RegC.take (i := 9) (v := ?_) rfl (by kernel_rfl) (by kernel_rfl) (by kernel_rfl) (by kernel_rfl) (by kernel_rfl) (fun _ _ _ h => hQ _ _ _ _ _ h) (Or.inl ⟨by rfl, ?_⟩) Y ?_; rotate_left 1; focus (intro W hW; go_simp; try (first | with_reducible rfl | (rw [if_pos (by omega)]; done) | (rw [if_pos (by omega), if_neg (by omega)]; done) | (rw [if_neg (by omega)]; done))))
    (refine RegC.take (i := 10) (v := ?_) rfl (by kernel_rfl) (by kernel_rfl) (by kernel_rfl) (by kernel_rfl) (by kernel_rfl) (fun _ _ _ h => hQ _ _ _ _ _ h) (Or.inl ⟨by rfl, ?_⟩) Y ?_; rotate_left 1; focus (intro W hW; go_simp; try (first | with_reducible rfl | (rw [if_pos (by omega)]; done) | (rw [if_pos (by omega), if_neg (by omega)]; done) | (rw [if_neg (by omega)]; done))))
    (refine RegC.take (i := 11) (v := ?_) rfl (by kernel_rfl) (by kernel_rfl) (by kernel_rfl) (by kernel_rfl) (by kernel_rfl) (fun _ _ _ h => hQ _ _ _ _ _ h) (Or.inl ⟨by rfl, ?_⟩) Y ?_; rotate_left 1; focus (intro W hW; go_simp; try (first | with_reducible rfl | (rw [if_pos (by omega)]; done) | (rw [if_pos (by omega), if_neg (by omega)]; done) | (rw [if_neg (by omega)]; done))))
    clear e5 e7 e8 z6 z8 z0 z1
    refine Hash.gen_world (Pq := fun W => Pg w W old zero zero x) (G := fun W => RegC.anyT _ _ _ _ _ _ _ _ _ W) Y ?_
    clear Y sz
    intro w4 Y
    refine RegC.ready (rs := [12, 17, 18]) (by kernel_rfl) (by simp) ?_
    refine RegC.cons rfl (fun K hK => ?_) ?_
    · go_simp
      have bsz := Y.l.lt
      go_wp2_with (go_at_call 26; (with_reducible refine (HC.out _ Y.p.z).mono ?_); rintro e wc ⟨vr, kr, rfl, ho, hb⟩; have HOW := Lib.hid ho; have csz := hb.size; replace Y := Y.on hb; clear ho)
      refine ⟨fun _ => Y, ?_⟩
      (refine RegC.take (i := 13) (v := ?_) rfl (by kernel_rfl) (by kernel_rfl) (by kernel_rfl) (by kernel_rfl) (by kernel_rfl) (fun _ _ _ h => hQ _ _ _ _ _ h) (Or.inl ⟨by rfl, ?_⟩) Y ?_; rotate_left 1; focus (intro W hW; go_simp; try (first | with_reducible rfl | (rw [if_pos (by omega)]; done) | (rw [if_pos (by omega), if_neg (by omega)]; done) | (rw [if_neg (by omega)]; done))))
      (refine RegC.take (i := 14) (v := ?_) rfl (by kernel_rfl) (by kernel_rfl) (by kernel_rfl) (by kernel_rfl) (by kernel_rfl) (fun _ _ _ h => hQ _ _ _ _ _ h) (Or.inl ⟨by rfl, ?_⟩) Y ?_; rotate_left 1; focus (intro W hW; go_simp; try (first | with_reducible rfl | (rw [if_pos (by omega)]; done) | (rw [if_pos (by omega), if_neg (by omega)]; done) | (rw [if_neg (by omega)]; done))))
      (refine RegC.take (i := 15) (v := ?_) rfl (by kernel_rfl) (by kernel_rfl) (by kernel_rfl) (by kernel_rfl) (by kernel_rfl) (fun _ _ _ h => hQ _ _ _ _ _ h) (Or.inl ⟨by rfl, ?_⟩) Y ?_; rotate_left 1; focus (intro W hW; go_simp; try (first | with_reducible rfl | (rw [if_pos (by omega)]; done) | (rw [if_pos (by omega), if_neg (by omega)]; done) | (rw [if_neg (by omega)]; done))))
      (refine RegC.take (i := 16) (v := ?_) rfl (by kernel_rfl) (by kernel_rfl) (by kernel_rfl) (by kernel_rfl) (by kernel_rfl) (fun _ _ _ h => hQ _ _ _ _ _ h) (Or.inl ⟨by rfl, ?_⟩) Y ?_; rotate_left 1; focus (intro W hW; go_simp; try (first | with_reducible rfl | (rw [if_pos (by omega)]; done) | (rw [if_pos (by omega), if_neg (by omega)]; done) | (rw [if_neg (by omega)]; done))))
      have M := Mid.refl w4.heap.size wc.heap.size wc
      refine Hash.gen_world (Pq := fun W => Pg w W old zero zero x ∧ Mid w4.heap.size wc.heap.size wc W) (G := fun W => RegC.anyT _ _ _ _ _ _ _ _ _ W) ⟨Y, M⟩ ?_
      clear Y M
      intro w5 hw
      obtain ⟨Y, M⟩ := hw
      refine RegC.ready (rs := [17, 18]) (by kernel_rfl) (by simp) ?_
      refine RegC.cons rfl (fun K hK => ?_) ?_
      · go_simp
        have fa17 := Y.l.lt
        have ta17 := M.size
        refine hK _ _ ⟨fun _ => Y.on (Wire.b1 _ _), ?_⟩
        refine Hash.gen_world (Pq := fun W => Pg w W old zero zero x ∧ Dg W w5.heap.size zero ∧ Mid w4.heap.size wc.heap.size wc W) (G := fun W => RegC.anyT _ _ _ _ _ _ _ _ _ W) ⟨Y.on (Wire.b1 _ _), dg_zero _ _, M.on M.size (Wire.b1 _ _)⟩ ?_
        clear Y M hK K
        intro w6 hw
        obtain ⟨Y, D17, M⟩ := hw
        generalize w5.heap.size = g17 at *
        refine RegC.ready (rs := [18]) (by kernel_rfl) (by simp) ?_
        refine RegC.cons rfl (fun K hK => ?_) RegC.nil
        go_simp
        have fa18 := Y.l.lt
        have na17 := D17.lt
        have ta18 := M.size
        refine hK _ _ ⟨fun _ => Y.on (Wire.b1 _ _), ?_⟩
        refine Hash.gen_world (Pq := fun W => Pg w W old zero zero x ∧ Dg W g17 zero ∧ Dg W w6.heap.size zero ∧ Mid w4.heap.size wc.heap.size wc W) (G := fun W => RegC.anyT _ _ _ _ _ _ _ _ _ W) ⟨Y.on (Wire.b1 _ _), D17.on (Wire.b1 _ _), dg_zero _ _, M.on M.size (Wire.b1 _ _)⟩ ?_
        clear Y D17 M hK K
        intro w7 hw
        obtain ⟨Y, D17, D18, M⟩ := hw
        generalize w6.heap.size = g18 at *
        clear hq2 hle hmost
        have R : Rmm w w4 wc w7 old x g17 g18 zero zero vr kr L := ⟨Y, D17, D18, by omega, by omega, by omega, HOW.out, by omega, by omega, by omega, M⟩
        (refine RegC.take (i := 19) (v := ?_) rfl (by kernel_rfl) (by kernel_rfl) (by kernel_rfl) (by kernel_rfl) (by kernel_rfl) (fun _ _ _ h => hQ _ _ _ _ _ h) (Or.inl ⟨by rfl, ?_⟩) Y ?_; rotate_left 1; focus (intro W hW; go_simp; try (first | with_reducible rfl | (rw [if_pos (by omega)]; done) | (rw [if_pos (by omega), if_neg (by omega)]; done) | (rw [if_neg (by omega)]; done))))
        clear Y D17 D18 M
        refine RegC.store1 20 (by kernel_rfl) rfl rfl 29 (.tmp 20) (.tmp 96) rfl g17 0 (X1.map bv).toArray (by go_simp) (by go_simp; rfl) (R.a.thereA HX1.out) (info_dA HX1.out) (one_d X1) (R.one HX1.out).p ?_
        refine Hash.gen_world (Pq := fun W => Rmm w w4 wc W old x g17 g18 X1 zero vr kr L) (G := fun W => RegC.anyT _ _ _ _ _ _ _ _ _ W) (R.one HX1.out) ?_
        clear R
        intro w8 R
        refine RegC.store1 21 (by kernel_rfl) rfl rfl 29 (.tmp 21) (.tmp 97) rfl g18 0 (X2.map bv).toArray (by go_simp) (by go_simp; rfl) (R.b.thereA HX2.out) (info_dA HX2.out) (one_d X2) (R.two HX2.out).p ?_
        refine Hash.gen_world (Pq := fun W => Ph w W old x g17 g18 X1 X2 vr kr L) (G := fun W => RegC.anyT _ _ _ _ _ _ _ _ _ W) (R.two HX2.out) ?_
        clear R
        intro w9 R
        refine RegC.done (by kernel_rfl) ?_
        exact Eq.mp (by kernel_rfl) (cont ⟨g17, g18, vr, kr⟩ _ R)
      · refine RegC.cons rfl (fun K hK => ?_) RegC.nil
        go_simp
        have fa18 := Y.l.lt
        have ta18 := M.size
        refine hK _ _ ⟨fun _ => Y.on (Wire.b1 _ _), ?_⟩
        refine Hash.gen_world (Pq := fun W => Pg w W old zero zero x ∧ Dg W w5.heap.size zero ∧ Mid w4.heap.size wc.heap.size wc W) (G := fun W => RegC.anyT _ _ _ _ _ _ _ _ _ W) ⟨Y.on (Wire.b1 _ _), dg_zero _ _, M.on M.size (Wire.b1 _ _)⟩ ?_
        clear Y M hK K
        intro w6 hw
        obtain ⟨Y, D18, M⟩ := hw
        generalize w5.heap.size = g18 at *
        refine RegC.ready (rs := [17]) (by kernel_rfl) (by simp) ?_
        refine RegC.cons rfl (fun K hK => ?_) RegC.nil
        go_simp
        have fa17 := Y.l.lt
        have na18 := D18.lt
        have ta17 := M.size
        refine hK _ _ ⟨fun _ => Y.on (Wire.b1 _ _), ?_⟩
        refine Hash.gen_world (Pq := fun W => Pg w W old zero zero x ∧ Dg W g18 zero ∧ Dg W w6.heap.size zero ∧ Mid w4.heap.size wc.heap.size wc W) (G := fun W => RegC.anyT _ _ _ _ _ _ _ _ _ W) ⟨Y.on (Wire.b1 _ _), D18.on (Wire.b1 _ _), dg_zero _ _, M.on M.size (Wire.b1 _ _)⟩ ?_
        clear Y D18 M hK K
        intro w7 hw
        obtain ⟨Y, D18, D17, M⟩ := hw
        generalize w6.heap.size = g17 at *
        clear hq2 hle hmost
        have R : Rmm w w4 wc w7 old x g17 g18 zero zero vr kr L := ⟨Y, D17, D18, by omega, by omega, by omega, HOW.out, by omega, by omega, by omega, M⟩
        (refine RegC.take (i := 19) (v := ?_) rfl (by kernel_rfl) (by kernel_rfl) (by kernel_rfl) (by kernel_rfl) (by kernel_rfl) (fun _ _ _ h => hQ _ _ _ _ _ h) (Or.inl ⟨by rfl, ?_⟩) Y ?_; rotate_left 1; focus (intro W hW; go_simp; try (first | with_reducible rfl | (rw [if_pos (by omega)]; done) | (rw [if_pos (by omega), if_neg (by omega)]; done) | (rw [if_neg (by omega)]; done))))
        clear Y D17 D18 M
        refine RegC.store1 20 (by kernel_rfl) rfl rfl 29 (.tmp 20) (.tmp 96) rfl g17 0 (X1.map bv).toArray (by go_simp) (by go_simp; rfl) (R.a.thereA HX1.out) (info_dA HX1.out) (one_d X1) (R.one HX1.out).p ?_
        refine Hash.gen_world (Pq := fun W => Rmm w w4 wc W old x g17 g18 X1 zero vr kr L) (G := fun W => RegC.anyT _ _ _ _ _ _ _ _ _ W) (R.one HX1.out) ?_
        clear R
        intro w8 R
        refine RegC.store1 21 (by kernel_rfl) rfl rfl 29 (.tmp 21) (.tmp 97) rfl g18 0 (X2.map bv).toArray (by go_simp) (by go_simp; rfl) (R.b.thereA HX2.out) (info_dA HX2.out) (one_d X2) (R.two HX2.out).p ?_
        refine Hash.gen_world (Pq := fun W => Ph w W old x g17 g18 X1 X2 vr kr L) (G := fun W => RegC.anyT _ _ _ _ _ _ _ _ _ W) (R.two HX2.out) ?_
        clear R
        intro w9 R
        refine RegC.done (by kernel_rfl) ?_
        exact Eq.mp (by kernel_rfl) (cont ⟨g17, g18, vr, kr⟩ _ R)
    · refine RegC.cons rfl (fun K hK => ?_) ?_
      · go_simp
        have fa17 := Y.l.lt
        refine hK _ _ ⟨fun _ => Y.on (Wire.b1 _ _), ?_⟩
        refine Hash.gen_world (Pq := fun W => Pg w W old zero zero x ∧ Dg W w4.heap.size zero) (G := fun W => RegC.anyT _ _ _ _ _ _ _ _ _ W) ⟨Y.on (Wire.b1 _ _), dg_zero _ _⟩ ?_
        clear Y hK K
        intro w5 hw
        obtain ⟨Y, D17⟩ := hw
        generalize w4.heap.size = g17 at *
        refine RegC.ready (rs := [12, 18]) (by kernel_rfl) (by simp) ?_
        refine RegC.cons rfl (fun K hK => ?_) ?_
        · go_simp
          have bsz := Y.l.lt
          go_wp2_with (go_at_call 26; (with_reducible refine (HC.out _ Y.p.z).mono ?_); rintro e wc ⟨vr, kr, rfl, ho, hb⟩; have HOW := Lib.hid ho; have csz := hb.size; replace Y := Y.on hb; have cb17 := D17.lt; replace D17 := D17.on hb; clear ho)
          refine ⟨fun _ => Y, ?_⟩
          (refine RegC.take (i := 13) (v := ?_) rfl (by kernel_rfl) (by kernel_rfl) (by kernel_rfl) (by kernel_rfl) (by kernel_rfl) (fun _ _ _ h => hQ _ _ _ _ _ h) (Or.inl ⟨by rfl, ?_⟩) Y ?_; rotate_left 1; focus (intro W hW; go_simp; try (first | with_reducible rfl | (rw [if_pos (by omega)]; done) | (rw [if_pos (by omega), if_neg (by omega)]; done) | (rw [if_neg (by omega)]; done))))
          (refine RegC.take (i := 14) (v := ?_) rfl (by kernel_rfl) (by kernel_rfl) (by kernel_rfl) (by kernel_rfl) (by kernel_rfl) (fun _ _ _ h => hQ _ _ _ _ _ h) (Or.inl ⟨by rfl, ?_⟩) Y ?_; rotate_left 1; focus (intro W hW; go_simp; try (first | with_reducible rfl | (rw [if_pos (by omega)]; done) | (rw [if_pos (by omega), if_neg (by omega)]; done) | (rw [if_neg (by omega)]; done))))
          (refine RegC.take (i := 15) (v := ?_) rfl (by kernel_rfl) (by kernel_rfl) (by kernel_rfl) (by kernel_rfl) (by kernel_rfl) (fun _ _ _ h => hQ _ _ _ _ _ h) (Or.inl ⟨by rfl, ?_⟩) Y ?_; rotate_left 1; focus (intro W hW; go_simp; try (first | with_reducible rfl | (rw [if_pos (by omega)]; done) | (rw [if_pos (by omega), if_neg (by omega)]; done) | (rw [if_neg (by omega)]; done))))
          (refine RegC.take (i := 16) (v := ?_) rfl (by kernel_rfl) (by kernel_rfl) (by kernel_rfl) (by kernel_rfl) (by kernel_rfl) (fun _ _ _ h => hQ _ _ _ _ _ h) (Or.inl ⟨by rfl, ?_⟩) Y ?_; rotate_left 1; focus (intro W hW; go_simp; try (first | with_reducible rfl | (rw [if_pos (by omega)]; done) | (rw [if_pos (by omega), if_neg (by omega)]; done) | (rw [if_neg (by omega)]; done))))
          have M := Mid.refl w5.heap.size wc.heap.size wc
          refine Hash.gen_world (Pq := fun W => Pg w W old zero zero x ∧ Dg W g17 zero ∧ Mid w5.heap.size wc.heap.size wc W) (G := fun W => RegC.anyT _ _ _ _ _ _ _ _ _ W) ⟨Y, D17, M⟩ ?_
          clear Y M D17
          intro w6 hw
          obtain ⟨Y, D17, M⟩ := hw
          refine RegC.ready (rs := [18]) (by kernel_rfl) (by simp) ?_
          refine RegC.cons rfl (fun K hK => ?_) RegC.nil
          go_simp
          have fa18 := Y.l.lt
          have na17 := D17.lt
          have ta18 := M.size
          refine hK _ _ ⟨fun _ => Y.on (Wire.b1 _ _), ?_⟩
          refine Hash.gen_world (Pq := fun W => Pg w W old zero zero x ∧ Dg W g17 zero ∧ Dg W w6.heap.size zero ∧ Mid w5.heap.size wc.heap.size wc W) (G := fun W => RegC.anyT _ _ _ _ _ _ _ _ _ W) ⟨Y.on (Wire.b1 _ _), D17.on (Wire.b1 _ _), dg_zero _ _, M.on M.size (Wire.b1 _ _)⟩ ?_
          clear Y D17 M hK K
          intro w7 hw
          obtain ⟨Y, D17, D18, M⟩ := hw
          generalize w6.heap.size = g18 at *
          clear hq2 hle hmost
          have R : Rmm w w5 wc w7 old x g17 g18 zero zero vr kr L := ⟨Y, D17, D18, by omega, by omega, by omega, HOW.out, by omega, by omega, by omega, M⟩
          (refine RegC.take (i := 19) (v := ?_) rfl (by kernel_rfl) (by kernel_rfl) (by kernel_rfl) (by kernel_rfl) (by kernel_rfl) (fun _ _ _ h => hQ _ _ _ _ _ h) (Or.inl ⟨by rfl, ?_⟩) Y ?_; rotate_left 1; focus (intro W hW; go_simp; try (first | with_reducible rfl | (rw [if_pos (by omega)]; done) | (rw [if_pos (by omega), if_neg (by omega)]; done) | (rw [if_neg (by omega)]; done))))
          clear Y D17 D18 M
          refine RegC.store1 20 (by kernel_rfl) rfl rfl 29 (.tmp 20) (.tmp 96) rfl g17 0 (X1.map bv).toArray (by go_simp) (by go_simp; rfl) (R.a.thereA HX1.out) (info_dA HX1.out) (one_d X1) (R.one HX1.out).p ?_
          refine Hash.gen_world (Pq := fun W => Rmm w w5 wc W old x g17 g18 X1 zero vr kr L) (G := fun W => RegC.anyT _ _ _ _ _ _ _ _ _ W) (R.one HX1.out) ?_
          clear R
          intro w8 R
          refine RegC.store1 21 (by kernel_rfl) rfl rfl 29 (.tmp 21) (.tmp 97) rfl g18 0 (X2.map bv).toArray (by go_simp) (by go_simp; rfl) (R.b.thereA HX2.out) (info_dA HX2.out) (one_d X2) (R.two HX2.out).p ?_
          refine Hash.gen_world (Pq := fun W => Ph w W old x g17 g18 X1 X2 vr kr L) (G := fun W => RegC.anyT _ _ _ _ _ _ _ _ _ W) (R.two HX2.out) ?_
          clear R
          intro w9 R
          refine RegC.done (by kernel_rfl) ?_
          exact Eq.mp (by kernel_rfl) (cont ⟨g17, g18, vr, kr⟩ _ R)
        · refine RegC.cons rfl (fun K hK => ?_) RegC.nil
          go_simp
          have fa18 := Y.l.lt
          have na17 := D17.lt
          refine hK _ _ ⟨fun _ => Y.on (Wire.b1 _ _), ?_⟩
          refine Hash.gen_world (Pq := fun W => Pg w W old zero zero x ∧ Dg W g17 zero ∧ Dg W w5.heap.size zero) (G := fun W => RegC.anyT _ _ _ _ _ _ _ _ _ W) ⟨Y.on (Wire.b1 _ _), D17.on (Wire.b1 _ _), dg_zero _ _⟩ ?_
          clear Y D17 hK K
          intro w6 hw
          obtain ⟨Y, D17, D18⟩ := hw
          generalize w5.heap.size = g18 at *
          refine RegC.ready (rs := [12]) (by kernel_rfl) (by simp) ?_
          refine RegC.cons rfl (fun K hK => ?_) RegC.nil
          go_simp
          have bsz := Y.l.lt
          go_wp2_with (go_at_call 26; (with_reducible refine (HC.out _ Y.p.z).mono ?_); rintro e wc ⟨vr, kr, rfl, ho, hb⟩; have HOW := Lib.hid ho; have csz := hb.size; replace Y := Y.on hb; have cb17 := D17.lt; replace D17 := D17.on hb; have cb18 := D18.lt; replace D18 := D18.on hb; clear ho)
          refine ⟨fun _ => Y, ?_⟩
          (refine RegC.take (i := 13) (v := ?_) rfl (by kernel_rfl) (by kernel_rfl) (by kernel_rfl) (by kernel_rfl) (by kernel_rfl) (fun _ _ _ h => hQ _ _ _ _ _ h) (Or.inl ⟨by rfl, ?_⟩) Y ?_; rotate_left 1; focus (intro W hW; go_simp; try (first | with_reducible rfl | (rw [if_pos (by omega)]; done) | (rw [if_pos (by omega), if_neg (by omega)]; done) | (rw [if_neg (by omega)]; done))))
          (refine RegC.take (i := 14) (v := ?_) rfl (by kernel_rfl) (by kernel_rfl) (by kernel_rfl) (by kernel_rfl) (by kernel_rfl) (fun _ _ _ h => hQ _ _ _ _ _ h) (Or.inl ⟨by rfl, ?_⟩) Y ?_; rotate_left 1; focus (intro W hW; go_simp; try (first | with_reducible rfl | (rw [if_pos (by omega)]; done) | (rw [if_pos (by omega), if_neg (by omega)]; done) | (rw [if_neg (by omega)]; done))))
          (refine RegC.take (i := 15) (v := ?_) rfl (by kernel_rfl) (by kernel_rfl) (by kernel_rfl) (by kernel_rfl) (by kernel_rfl) (fun _ _ _ h => hQ _ _ _ _ _ h) (Or.inl ⟨by rfl, ?_⟩) Y ?_; rotate_left 1; focus (intro W hW; go_simp; try (first | with_reducible rfl | (rw [if_pos (by omega)]; done) | (rw [if_pos (by omega), if_neg (by omega)]; done) | (rw [if_neg (by omega)]; done))))
          (refine RegC.take (i := 16) (v := ?_) rfl (by kernel_rfl) (by kernel_rfl) (by kernel_rfl) (by kernel_rfl) (by kernel_rfl) (fun _ _ _ h => hQ _ _ _ _ _ h) (Or.inl ⟨by rfl, ?_⟩) Y ?_; rotate_left 1; focus (intro W hW; go_simp; try (first | with_reducible rfl | (rw [if_pos (by omega)]; done) | (rw [if_pos (by omega), if_neg (by omega)]; done) | (rw [if_neg (by omega)]; done))))
          have M := Mid.refl w6.heap.size wc.heap.size wc
          refine Hash.gen_world (Pq := fun W => Pg w W old zero zero x ∧ Dg W g17 zero ∧ Dg W g18 zero ∧ Mid w6.heap.size wc.heap.size wc W) (G := fun W => RegC.anyT _ _ _ _ _ _ _ _ _ W) ⟨Y, D17, D18, M⟩ ?_
          clear Y M D17 D18
          intro w7 hw
          obtain ⟨Y, D17, D18, M⟩ := hw
          clear hq2 hle hmost
          have R : Rmm w w6 wc w7 old x g17 g18 zero zero vr kr L := ⟨Y, D17, D18, by omega, by omega, by omega, HOW.out, by omega, by omega, by omega, M⟩
          (refine RegC.take (i := 19) (v := ?_) rfl (by kernel_rfl) (by kernel_rfl) (by kernel_rfl) (by kernel_rfl) (by kernel_rfl) (fun _ _ _ h => hQ _ _ _ _ _ h) (Or.inl ⟨by rfl, ?_⟩) Y ?_; rotate_left 1; focus (intro W hW; go_simp; try (first | with_reducible rfl | (rw [if_pos (by omega)]; done) | (rw [if_pos (by omega), if_neg (by omega)]; done) | (rw [if_neg (by omega)]; done))))
          clear Y D17 D18 M
          refine RegC.store1 20 (by kernel_rfl) rfl rfl 29 (.tmp 20) (.tmp 96) rfl g17 0 (X1.map bv).toArray (by go_simp) (by go_simp; rfl) (R.a.thereA HX1.out) (info_dA HX1.out) (one_d X1) (R.one HX1.out).p ?_
          refine Hash.gen_world (Pq := fun W => Rmm w w6 wc W old x g17 g18 X1 zero vr kr L) (G := fun W => RegC.anyT _ _ _ _ _ _ _ _ _ W) (R.one HX1.out) ?_
          clear R
          intro w8 R
          refine RegC.store1 21 (by kernel_rfl) rfl rfl 29 (.tmp 21) (.tmp 97) rfl g18 0 (X2.map bv).toArray (by go_simp) (by go_simp; rfl) (R.b.thereA HX2.out) (info_dA HX2.out) (one_d X2) (R.two HX2.out).p ?_
          refine Hash.gen_world (Pq := fun W => Ph w W old x g17 g18 X1 X2 vr kr L) (G := fun W => RegC.anyT _ _ _ _ _ _ _ _ _ W) (R.two HX2.out) ?_
          clear R
          intro w9 R
          refine RegC.done (by kernel_rfl) ?_
          exact Eq.mp (by kernel_rfl) (cont ⟨g17, g18, vr, kr⟩ _ R)
      · refine RegC.cons rfl (fun K hK => ?_) RegC.nil
        go_simp
        have fa18 := Y.l.lt
        refine hK _ _ ⟨fun _ => Y.on (Wire.b1 _ _), ?_⟩
        refine Hash.gen_world (Pq := fun W => Pg w W old zero zero x ∧ Dg W w4.heap.size zero) (G := fun W => RegC.anyT _ _ _ _ _ _ _ _ _ W) ⟨Y.on (Wire.b1 _ _), dg_zero _ _⟩ ?_
        clear Y hK K
        intro w5 hw
        obtain ⟨Y, D18⟩ := hw
        generalize w4.heap.size = g18 at *
        refine RegC.ready (rs := [12, 17]) (by kernel_rfl) (by simp) ?_
        refine RegC.cons rfl (fun K hK => ?_) ?_
        · go_simp
          have bsz := Y.l.lt
          go_wp2_with (go_at_call 26; (with_reducible refine (HC.out _ Y.p.z).mono ?_); rintro e wc ⟨vr, kr, rfl, ho, hb⟩; have HOW := Lib.hid ho; have csz := hb.size; replace Y := Y.on hb; have cb18 := D18.lt; replace D18 := D18.on hb; clear ho)
          refine ⟨fun _ => Y, ?_⟩
          (refine RegC.take (i := 13) (v := ?_) rfl (by kernel_rfl) (by kernel_rfl) (by kernel_rfl) (by kernel_rfl) (by kernel_rfl) (fun _ _ _ h => hQ _ _ _ _ _ h) (Or.inl ⟨by rfl, ?_⟩) Y ?_; rotate_left 1; focus (intro W hW; go_simp; try (first | with_reducible rfl | (rw [if_pos (by omega)]; done) | (rw [if_pos (by omega), if_neg (by omega)]; done) | (rw [if_neg (by omega)]; done))))
          (refine RegC.take (i := 14) (v := ?_) rfl (by kernel_rfl) (by kernel_rfl) (by kernel_rfl) (by kernel_rfl) (by kernel_rfl) (fun _ _ _ h => hQ _ _ _ _ _ h) (Or.inl ⟨by rfl, ?_⟩) Y ?_; rotate_left 1; focus (intro W hW; go_simp; try (first | with_reducible rfl | (rw [if_pos (by omega)]; done) | (rw [if_pos (by omega), if_neg (by omega)]; done) | (rw [if_neg (by omega)]; done))))
          (refine RegC.take (i := 15) (v := ?_) rfl (by kernel_rfl) (by kernel_rfl) (by kernel_rfl) (by kernel_rfl) (by kernel_rfl) (fun _ _ _ h => hQ _ _ _ _ _ h) (Or.inl ⟨by rfl, ?_⟩) Y ?_; rotate_left 1; focus (intro W hW; go_simp; try (first | with_reducible rfl | (rw [if_pos (by omega)]; done) | (rw [if_pos (by omega), if_neg (by omega)]; done) | (rw [if_neg (by omega)]; done))))
          (refine RegC.take (i := 16) (v := ?_) rfl (by kernel_rfl) (by kernel_rfl) (by kernel_rfl) (by kernel_rfl) (by kernel_rfl) (fun _ _ _ h => hQ _ _ _ _ _ h) (Or.inl ⟨by rfl, ?_⟩) Y ?_; rotate_left 1; focus (intro W hW; go_simp; try (first | with_reducible rfl | (rw [if_pos (by omega)]; done) | (rw [if_pos (by omega), if_neg (by omega)]; done) | (rw [if_neg (by omega)]; done))))
          have M := Mid.refl w5.heap.size wc.heap.size wc
          refine Hash.gen_world (Pq := fun W => Pg w W old zero zero x ∧ Dg W g18 zero ∧ Mid w5.heap.size wc.heap.size wc W) (G := fun W => RegC.anyT _ _ _ _ _ _ _ _ _ W) ⟨Y, D18, M⟩ ?_
          clear Y M D18
          intro w6 hw
          obtain ⟨Y, D18, M⟩ := hw
          refine RegC.ready (rs := [17]) (by kernel_rfl) (by simp) ?_
          refine RegC.cons rfl (fun K hK => ?_) RegC.nil
          go_simp
          have fa17 := Y.l.lt
          have na18 := D18.lt
          have ta17 := M.size
          refine hK _ _ ⟨fun _ => Y.on (Wire.b1 _ _), ?_⟩
          refine Hash.gen_world (Pq := fun W => Pg w W old zero zero x ∧ Dg W g18 zero ∧ Dg W w6.heap.size zero ∧ Mid w5.heap.size wc.heap.size wc W) (G := fun W => RegC.anyT _ _ _ _ _ _ _ _ _ W) ⟨Y.on (Wire.b1 _ _), D18.on (Wire.b1 _ _), dg_zero _ _, M.on M.size (Wire.b1 _ _)⟩ ?_
          clear Y D18 M hK K
          intro w7 hw
          obtain ⟨Y, D18, D17, M⟩ := hw
          generalize w6.heap.size = g17 at *
          clear hq2 hle hmost
          have R : Rmm w w5 wc w7 old x g17 g18 zero zero vr kr L := ⟨Y, D17, D18, by omega, by omega, by omega, HOW.out, by omega, by omega, by omega, M⟩
          (refine RegC.take (i := 19) (v := ?_) rfl (by kernel_rfl) (by kernel_rfl) (by kernel_rfl) (by kernel_rfl) (by kernel_rfl) (fun _ _ _ h => hQ _ _ _ _ _ h) (Or.inl ⟨by rfl, ?_⟩) Y ?_; rotate_left 1; focus (intro W hW; go_simp; try (first | with_reducible rfl | (rw [if_pos (by omega)]; done) | (rw [if_pos (by omega), if_neg (by omega)]; done) | (rw [if_neg (by omega)]; done))))
          clear Y D17 D18 M
          refine RegC.store1 20 (by kernel_rfl) rfl rfl 29 (.tmp 20) (.tmp 96) rfl g17 0 (X1.map bv).toArray (by go_simp) (by go_simp; rfl) (R.a.thereA HX1.out) (info_dA HX1.out) (one_d X1) (R.one HX1.out).p ?_
          refine Hash.gen_world (Pq := fun W => Rmm w w5 wc W old x g17 g18 X1 zero vr kr L) (G := fun W => RegC.anyT _ _ _ _ _ _ _ _ _ W) (R.one HX1.out) ?_
          clear R
          intro w8 R
          refine RegC.store1 21 (by kernel_rfl) rfl rfl 29 (.tmp 21) (.tmp 97) rfl g18 0 (X2.map bv).toArray (by go_simp) (by go_simp; rfl) (R.b.thereA HX2.out) (info_dA HX2.out) (one_d X2) (R.two HX2.out).p ?_
          refine Hash.gen_world (Pq := fun W => Ph w W old x g17 g18 X1 X2 vr kr L) (G := fun W => RegC.anyT _ _ _ _ _ _ _ _ _ W) (R.two HX2.out) ?_
          clear R
          intro w9 R
          refine RegC.done (by kernel_rfl) ?_
          exact Eq.mp (by kernel_rfl) (cont ⟨g17, g18, vr, kr⟩ _ R)
        · refine RegC.cons rfl (fun K hK => ?_) RegC.nil
          go_simp
          have fa17 := Y.l.lt
          have na18 := D18.lt
          refine hK _ _ ⟨fun _ => Y.on (Wire.b1 _ _), ?_⟩
          refine Hash.gen_world (Pq := fun W => Pg w W old zero zero x ∧ Dg W g18 zero ∧ Dg W w5.heap.size zero) (G := fun W => RegC.anyT _ _ _ _ _ _ _ _ _ W) ⟨Y.on (Wire.b1 _ _), D18.on (Wire.b1 _ _), dg_zero _ _⟩ ?_
          clear Y D18 hK K
          intro w6 hw
          obtain ⟨Y, D18, D17⟩ := hw
          generalize w5.heap.size = g17 at *
          refine RegC.ready (rs := [12]) (by kernel_rfl) (by simp) ?_
          refine RegC.cons rfl (fun K hK => ?_) RegC.nil
          go_simp
          have bsz := Y.l.lt
          go_wp2_with (go_at_call 26; (with_reducible refine (HC.out _ Y.p.z).mono ?_); rintro e wc ⟨vr, kr, rfl, ho, hb⟩; have HOW := Lib.hid ho; have csz := hb.size; replace Y := Y.on hb; have cb17 := D17.lt; replace D17 := D17.on hb; have cb18 := D18.lt; replace D18 := D18.on hb; clear ho)
          refine ⟨fun _ => Y, ?_⟩
          (refine RegC.take (i := 13) (v := ?_) rfl (by kernel_rfl) (by kernel_rfl) (by kernel_rfl) (by kernel_rfl) (by kernel_rfl) (fun _ _ _ h => hQ _ _ _ _ _ h) (Or.inl ⟨by rfl, ?_⟩) Y ?_; rotate_left 1; focus (intro W hW; go_simp; try (first | with_reducible rfl | (rw [if_pos (by omega)]; done) | (rw [if_pos (by omega), if_neg (by omega)]; done) | (rw [if_neg (by omega)]; done))))
          (refine RegC.take (i := 14) (v := ?_) rfl (by kernel_rfl) (by kernel_rfl) (by kernel_rfl) (by kernel_rfl) (by kernel_rfl) (fun _ _ _ h => hQ _ _ _ _ _ h) (Or.inl ⟨by rfl, ?_⟩) Y ?_; rotate_left 1; focus (intro W hW; go_simp; try (first | with_reducible rfl | (rw [if_pos (by omega)]; done) | (rw [if_pos (by omega), if_neg (by omega)]; done) | (rw [if_neg (by omega)]; done))))
          (refine RegC.take (i := 15) (v := ?_) rfl (by kernel_rfl) (by kernel_rfl) (by kernel_rfl) (by kernel_rfl) (by kernel_rfl) (fun _ _ _ h => hQ _ _ _ _ _ h) (Or.inl ⟨by rfl, ?_⟩) Y ?_; rotate_left 1; focus (intro W hW; go_simp; try (first | with_reducible rfl | (rw [if_pos (by omega)]; done) | (rw [if_pos (by omega), if_neg (by omega)]; done) | (rw [if_neg (by omega)]; done))))
          (refine RegC.take (i := 16) (v := ?_) rfl (by kernel_rfl) (by kernel_rfl) (by kernel_rfl) (by kernel_rfl) (by kernel_rfl) (fun _ _ _ h => hQ _ _ _ _ _ h) (Or.inl ⟨by rfl, ?_⟩) Y ?_; rotate_left 1; focus (intro W hW; go_simp; try (first | with_reducible rfl | (rw [if_pos (by omega)]; done) | (rw [if_pos (by omega), if_neg (by omega)]; done) | (rw [if_neg (by omega)]; done))))
          have M := Mid.refl w6.heap.size wc.heap.size wc
          refine Hash.gen_world (Pq := fun W => Pg w W old zero zero x ∧ Dg W g17 zero ∧ Dg W g18 zero ∧ Mid w6.heap.size wc.heap.size wc W) (G := fun W => RegC.anyT _ _ _ _ _ _ _ _ _ W) ⟨Y, D17, D18, M⟩ ?_
          clear Y M D17 D18
          intro w7 hw
          obtain ⟨Y, D17, D18, M⟩ := hw
          clear hq2 hle hmost
          have R : Rmm w w6 wc w7 old x g17 g18 zero zero vr kr L := ⟨Y, D17, D18, by omega, by omega, by omega, HOW.out, by omega, by omega, by omega, M⟩
          (refine RegC.take (i := 19) (v := ?_) rfl (by kernel_rfl) (by kernel_rfl) (by kernel_rfl) (by kernel_rfl) (by kernel_rfl) (fun _ _ _ h => hQ _ _ _ _ _ h) (Or.inl ⟨by rfl, ?_⟩) Y ?_; rotate_left 1; focus (intro W hW; go_simp; try (first | with_reducible rfl | (rw [if_pos (by omega)]; done) | (rw [if_pos (by omega), if_neg (by omega)]; done) | (rw [if_neg (by omega)]; done))))
          clear Y D17 D18 M
          refine RegC.store1 20 (by kernel_rfl) rfl rfl 29 (.tmp 20) (.tmp 96) rfl g17 0 (X1.map bv).toArray (by go_simp) (by go_simp; rfl) (R.a.thereA HX1.out) (info_dA HX1.out) (one_d X1) (R.one HX1.out).p ?_
          refine Hash.gen_world (Pq := fun W => Rmm w w6 wc W old x g17 g18 X1 zero vr kr L) (G := fun W => RegC.anyT _ _ _ _ _ _ _ _ _ W) (R.one HX1.out) ?_
          clear R
          intro w8 R
          refine RegC.store1 21 (by kernel_rfl) rfl rfl 29 (.tmp 21) (.tmp 97) rfl g18 0 (X2.map bv).toArray (by go_simp) (by go_simp; rfl) (R.b.thereA HX2.out) (info_dA HX2.out) (one_d X2) (R.two HX2.out).p ?_
          refine Hash.gen_world (Pq := fun W => Ph w W old x g17 g18 X1 X2 vr kr L) (G := fun W => RegC.anyT _ _ _ _ _ _ _ _ _ W) (R.two HX2.out) ?_
          clear R
          intro w9 R
          refine RegC.done (by kernel_rfl) ?_
          exact Eq.mp (by kernel_rfl) (cont ⟨g17, g18, vr, kr⟩ _ R)
  · intro i W R0
    obtain ⟨g20, g21, vr, kr⟩ := i
    have Y0 : Ph w W old x g20 g21 X1 X2 vr kr L := R0
    clear R0 Y HC HSP e5 e7 e8 E7 E8 z6 z8 z0 z1 hq2 hle hmost
    have HT1 : Hid (∀ W, Calls Tryd.prog 53 #[.agg (X1.map bv).toArray] W (Hash.GivesT X1 W)) := Lib.hid (fun W => Hash.text_any X1 W HX1.out)
    have HT2 : Hid (∀ W, Calls Tryd.prog 53 #[.agg (X2.map bv).toArray] W (Hash.GivesT X2 W)) := Lib.hid (fun W => Hash.text_any X2 W HX2.out)
    have HTY : Hid (∀ W, Calls Tryd.prog 53 #[.agg (x.map bv).toArray] W (Hash.GivesT x W)) := Lib.hid (fun W => Hash.text_any x W HX.out)
    have HI1 : Hid (∀ W, Calls Tryd.prog 52 #[.int .i64 2, .slice (some ⟨W.heap.size, 0, none⟩) 2 2] (W.alloc (.cells #[.string ⟨x.toArray⟩, .string ⟨X1.toArray⟩] 9)) (Wire.Made W (HH.ni x X1).length (HH.ni x X1))) := Lib.hid (fun W => refInput_lit2 2 x X1 HX.out HX1.out W)
    have HI2 : Hid (∀ W, Calls Tryd.prog 52 #[.int .i64 2, .slice (some ⟨W.heap.size, 0, none⟩) 2 2] (W.alloc (.cells #[.string ⟨x.toArray⟩, .string ⟨X2.toArray⟩] 9)) (Wire.Made W (HH.ni x X2).length (HH.ni x X2))) := Lib.hid (fun W => refInput_lit2 2 x X2 HX.out HX2.out W)
    have HIL1 : Hid ((HH.ni x X1).length ≤ 1000000) := Lib.hid (ofIn_two HX.out HX1.out)
    have HIL2 : Hid ((HH.ni x X2).length ≤ 1000000) := Lib.hid (ofIn_two HX.out HX2.out)
    have HDL1 := Lib.hid (sh_length (HH.ni x X1))
    have HDL2 := Lib.hid (sh_length (HH.ni x X2))
    have HSH1 := Lib.hid (fun W g2 c5 (h : Lies W W.heap.size 1 (some ⟨g2, 0, none⟩) (HH.ni x X1).length c5 ((HH.ni x X1).map bv)) hT => refShort_any (HH.ni x X1) (HH.ni x X1).length c5 _ W h HIL1.out hT)
    have HSH2 := Lib.hid (fun W g2 c5 (h : Lies W W.heap.size 1 (some ⟨g2, 0, none⟩) (HH.ni x X2).length c5 ((HH.ni x X2).map bv)) hT => refShort_any (HH.ni x X2) (HH.ni x X2).length c5 _ W h HIL2.out hT)
    generalize HH.sh (HH.ni x X1) = D1 at *
    generalize HH.sh (HH.ni x X2) = D2 at *
    generalize HH.ni x X1 = N1 at *
    generalize HH.ni x X2 = N2 at *
    have hkr := Y0.own.len
    have HLE : Hid (kr + 2 ≤ 1099511627776) := Lib.hid (by have := HLL.out; omega)
    clear hkr
    go_wp2
    refine QTail.region (C := fun W => Ph w W old x g20 g21 X1 X2 vr kr L) 4 (by kernel_rfl) (by kernel_rfl) (Y0.on (Hash.belowD _)) ?_
    refine QTail.loadC (by rfl) 29 (.tmp 13) rfl (w.heap.size + 1 + 1 + 1) 0 (by go_simp) (x.map bv) _ (fun W h => h.p.l.range) und_d rfl (info_d HX.out) ?_
    (refine wpQuiet_step (fun K hK => ?_); go_simp; refine ⟨_, fun W hW => (HTY.out W).mono fun e w' ⟨he, hb⟩ => ⟨he, hW.on hb⟩, hK _ ?_⟩; clear hK K)
    refine QTail.loadC (by rfl) 29 (.tmp 20) rfl g20 0 (by go_simp) (X1.map bv) _ (fun W h => h.a.range) und_d rfl (info_d HX1.out) ?_
    (refine wpQuiet_step (fun K hK => ?_); go_simp; refine ⟨_, fun W hW => (HT1.out W).mono fun e w' ⟨he, hb⟩ => ⟨he, hW.on hb⟩, hK _ ?_⟩; clear hK K)
    refine wpQuiet_nil ?_
    clear Y0
    intro w9 Y
    simp only [List.drop_succ_cons, List.drop_zero]
    go_wp2_with (go_at_call 52; (with_reducible refine (HI1.out _).mono ?_); rintro e wa h2; obtain ⟨g5, c5, rfl, hm, hb⟩ := made_mem h2; have Y5 : PhM w wa old x g20 g21 X1 X2 vr kr L N1 g5 c5 := ⟨Y.on hb, hm.more (Nat.succ_le_of_lt Y.p.l.lt)⟩; clear Y hb hm h2)
    refine QTail.region (C := fun W => PhM w W old x g20 g21 X1 X2 vr kr L N1 g5 c5) 4 (by kernel_rfl) (by kernel_rfl) (Y5.on (Hash.belowD _)) ?_
    refine QTail.loadC (by rfl) 29 (.tmp 13) rfl (w.heap.size + 1 + 1 + 1) 0 (by go_simp) (x.map bv) _ (fun W h => h.p.p.l.range) und_d rfl (info_d HX.out) ?_
    (refine wpQuiet_step (fun K hK => ?_); go_simp; refine ⟨_, fun W hW => (HTY.out W).mono fun e w' ⟨he, hb⟩ => ⟨he, hW.on hb⟩, hK _ ?_⟩; clear hK K)
    refine QTail.loadC (by rfl) 29 (.tmp 21) rfl g21 0 (by go_simp) (X2.map bv) _ (fun W h => h.p.b.range) und_d rfl (info_d HX2.out) ?_
    (refine wpQuiet_step (fun K hK => ?_); go_simp; refine ⟨_, fun W hW => (HT2.out W).mono fun e w' ⟨he, hb⟩ => ⟨he, hW.on hb⟩, hK _ ?_⟩; clear hK K)
    refine wpQuiet_nil ?_
    clear Y5
    intro wb Y
    simp only [List.drop_succ_cons, List.drop_zero]
    go_wp2_with (first
      | (go_at_call 52; (with_reducible refine (HI2.out _).mono ?_); rintro e we h2; obtain ⟨g6, c6, rfl, hm, hb⟩ := made_mem h2; have HM := Lib.hid (hm.more (Nat.succ_le_of_lt Y.p.p.l.lt)); replace Y := Y.on hb; clear hb hm h2)
      | (at_builtin; refine append_tw rfl _ _ rfl (w.heap.size + 4) vr kr L rfl (Y.p.own.on (Wire.b1 _ _)) ⟨we.heap.size, 0, none⟩ 2 2 rfl [N1, N2] [.slice (some ⟨g5, 0, none⟩) N1.length c5, .slice (some ⟨g6, 0, none⟩) N2.length c6] rfl rfl (fresh_two we _ _ _) (two_mem (Y.m.on (Wire.b1 _ _)) (HM.out.on (Wire.b1 _ _))) HLE.out (Nat.le_trans (Nat.succ_le_of_lt Y.p.p.l.lt) (Wire.b1 _ _).size) ?_; intro v6 w6 ho6 hb6 hg6 hme; have HAF := (Y.p.on (Wire.b1 we _)).after hg6 hb6; refine Hash.gen_world (Pq := fun W => PhZ w W old N1 N2 g5 c5 g6 c6 v6 (kr + 2) (L ++ [N1, N2])) (G := fun W => wpList _ _ _ _ _ W) ⟨ho6, HAF.1, hme _ _ (Y.m.on (Wire.b1 _ _)), hme _ _ (HM.out.on (Wire.b1 _ _))⟩ ?_; clear Y HM HAF ho6 hb6 hg6 hme; intro w7 Y))
    have SH1 : Hid (∀ W, PhZ w W old N1 N2 g5 c5 g6 c6 v6 (kr + 2) (L ++ [N1, N2]) → Calls Tryd.prog 47 #[.slice (some ⟨g5, 0, none⟩) N1.length c5] W (GivesD D1 W)) := Lib.hid (fun W h => HSH1.out W g5 c5 (mem_own h.m) (HTT.out.on h.f.z))
    have SH2 : Hid (∀ W, PhZ w W old N1 N2 g5 c5 g6 c6 v6 (kr + 2) (L ++ [N1, N2]) → Calls Tryd.prog 47 #[.slice (some ⟨g6, 0, none⟩) N2.length c6] W (GivesD D2 W)) := Lib.hid (fun W h => HSH2.out W g6 c6 (mem_own h.m2) (HTT.out.on h.f.z))
    have lt1 : w.heap.size + 1 < w.heap.size + 4 := by omega
    have lt2 : w.heap.size + 1 + 1 < w.heap.size + 4 := by omega
    go_wp2_with (first
      | (go_at_call 47; (with_reducible refine (SH1.out _ Y).mono ?_); rintro e w8 ⟨rfl, hb⟩; replace Y := Y.on hb; clear hb)
      | (go_at_call 47; (with_reducible refine (SH2.out _ Y).mono ?_); rintro e w10 ⟨rfl, hb⟩; replace Y := Y.on hb; clear hb)
      | (refine store_d (.tmp 11) (.tmp 117) rfl rfl (w.heap.size + 1) 0 rfl D1 rfl HDL1.out Y.f.x.there ?_; refine Hash.gen_world (Pq := fun W => OwnT W (w.heap.size + 4) v6 (kr + 2) (L ++ [N1, N2]) ∧ Pf w W old D1 zero) (G := fun W => wpList _ _ _ _ _ W) ⟨OwnT.mid Y.own ((Mid.refl _ _ _).cells (.inl lt1) _ _), Y.f.p1 HDL1.out⟩ ?_; clear Y; intro w11 Y)
      | (refine store_d (.tmp 12) (.tmp 119) rfl rfl (w.heap.size + 1 + 1) 0 rfl D2 rfl HDL2.out Y.2.y.there ?_; refine Hash.gen_world (Pq := fun W => OwnT W (w.heap.size + 4) v6 (kr + 2) (L ++ [N1, N2]) ∧ Pf w W old D1 D2) (G := fun W => wpList _ _ _ _ _ W) ⟨OwnT.mid Y.1 ((Mid.refl _ _ _).cells (.inl lt2) _ _), Y.2.p2 HDL2.out⟩ ?_; clear Y; intro w12 Y))
    have HXX := load_end Y.2.x
    have HYY : (loadVar 29 ⟨w.heap.size + 1 + 1, 0, none⟩).run Tryd.prog w12 = .ok (dv D2) w12 := load_end Y.2.y
    refine bodyPost_ret (v := .tuple #[v6, dv D1, dv D2]) ?_ rfl ⟨_, _, rfl, Y.1.more (by omega), Y.2.z⟩
    simp [results, Tryd.results26, asAddr, Act.put]
    rw [HXX, Result.andThen_ok, HYY]
    rfl
end Mk
end Go.Proofs.YthpkeaafgabjiaaDoor

/- The reference of package merkle: PrefixInputs, by induction on the proof. Conditions: the slice reads as a list of digests, the tables are laid. -/
namespace Go.Proofs.YthpkeaafgabjiaaDoor
open Go.RowKit
namespace Mk
open Wire (bv sv Lies)
open Hash (bcj)

theorem refPfx_any : ∀ (q : Nat) (p : List (List UInt8)) (m n c : Nat) (whole : Bool) (A : Option Addr) (old : List UInt8) (w : World), LiesD w w.heap.size A q c p → TT w → 1 ≤ m → m ≤ n → n ≤ 9223372036854775807 → old.length = 16 → q ≤ 1000000 →
    Calls Tryd.prog 26 #[dv old, .int .i64 (m : Int), .int .i64 (n : Int), .bool whole, .slice A q c] w
      (GivesFx (preInputs HH old p.reverse m n whole).1 (preInputs HH old p.reverse m n whole).2.1 (preInputs HH old p.reverse m n whole).2.2 w) := by
  intro q
  induction q with
  | zero =>
    intro p m n c whole A old w hl ht h1 hm hn ho hq
    obtain rfl := List.eq_nil_of_length_eq_zero hl.len
    exact refPfx_base old ho m n whole 0 c A w (.inr rfl)
  | succ q ih =>
    intro p m n c whole A old w hl ht h1 hm hn ho hq
    have hln := hl.len
    obtain ⟨r, x, rfl⟩ : ∃ r x, p = r ++ [x] := ⟨p.dropLast, p.getLast (by intro h; rw [h] at hln; cases hln), (List.dropLast_concat_getLast _).symm⟩
    have hrl : r.length = q := by rw [List.length_append, List.length_singleton] at hln; exact Nat.succ.inj hln
    have hxq : (r ++ [x])[q]? = some x := by rw [List.getElem?_append_right (Nat.le_of_eq hrl), hrl, Nat.sub_self]; rfl
    have hR := hl.take (k := q) (Nat.le_succ q)
    rw [List.take_left' hrl] at hR
    have hok := hR.ok
    have hq' : q ≤ 1000000 := Nat.le_of_succ_le hq
    rw [List.reverse_append, List.reverse_singleton, List.singleton_append]
    have hrok : Ok r.reverse := fun d hd => hok d (List.mem_reverse.1 hd)
    have hrr : r.reverse.length = q := by rw [List.length_reverse]; exact hrl
    by_cases h : m = n ∧ whole = true
    · rw [preInputs, if_pos h]
      exact refPfx_base old ho m n whole (q + 1) c A w (.inl h)
    by_cases hmn : m = n
    · rw [preInputs, if_neg h, if_pos hmn]
      subst hmn
      obtain rfl : whole = false := by cases whole with
        | false => rfl
        | true => exact absurd ⟨rfl, rfl⟩ h
      exact refPfx_same old ho m q c A _ x w hl hxq
    have h2 : 2 ≤ n := by omega
    have hs1 := split_lt h2
    have hs2 := split_pos n
    by_cases hlow : m ≤ split n
    · rw [preInputs, if_neg h, if_neg hmn, if_pos hlow]
      obtain ⟨l1, l2, l3⟩ := pre_len ho r.reverse m (split n) whole hrok
      exact refPfx_low old ho m n (split n) q c whole A _ x _ _ _ w hl hxq ht hmn hn rfl h2 hlow l2 l3 (by omega) hq'
        (fun W hb => ih r m (split n) c whole A old W ((hR.below hb).more hb.size) (ht.on hb) h1 hlow (by omega) ho hq')
    · rw [preInputs, if_neg h, if_neg hmn, if_neg hlow]
      obtain ⟨l1, l2, l3⟩ := pre_len ho r.reverse (m - split n) (n - split n) false hrok
      exact refPfx_high old ho m n (split n) q c whole A _ x _ _ _ w hl hxq ht hmn hm hn rfl h2 hlow l2 l3 (by omega) hq'
        (fun W hb => ih r (m - split n) (n - split n) c false A old W ((hR.below hb).more hb.size) (ht.on hb) (by omega) (by omega) (by omega) ho hq')
end Mk
end Go.Proofs.YthpkeaafgabjiaaDoor

