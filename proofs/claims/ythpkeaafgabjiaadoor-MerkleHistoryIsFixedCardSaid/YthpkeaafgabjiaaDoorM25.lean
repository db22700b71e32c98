/- MPVer; MPPro: what each of these parts proves stands ahead of it. -/
import Derived.Test.YthpkeaafgabjiaaDoorM24
import Derived.Test.YthpkeaafgabjiaaDoorM20
import Derived.Test.YthpkeaafgabjiaaDoorM15
import Derived.Test.YthpkeaafgabjiaaDoorM22
/- The package merkle: VerifyPrefix. Conditions: the slice reads as a list of digests, the tables are laid. -/
namespace Go.Proofs.YthpkeaafgabjiaaDoor
open Go.RowKit
namespace Mk
open Wire (bv sv Lies own_more)
open Hash (bcj)

set_option maxRecDepth 100000 in
set_option maxHeartbeats 1000000 in
theorem verifyPrefix_no (old root : List UInt8) (ho : old.length = 16) (hr : root.length = 16) (m n : Int) (q c : Nat) (A : Option Addr) (w : World) (h : m < 1 ∨ n < m) :
    Calls Tryd.prog 20 #[dv old, dv root, .int .i64 m, .int .i64 n, .slice A q c] w (GivesT false w) := by
  have Y := vb_new w ho hr 29 29
  have h2 : m < 1 ∨ (¬ m < 1 ∧ n < m) := by omega
  clear h ho hr
  unfold dv
  rcases h2 with h | ⟨h, h3⟩
  all_goals
    go_enter Tryd.func20, Tryd.ntmps20
    go_wp2
    go_ret
    exact ⟨rfl, Y.z⟩

/-- The digests that came in, the two that follow, and the parts. -/
structure Vs (w w4 W : World) (old root : List UInt8) (gx gy : Nat) (X Y : List UInt8) : Prop where
  v : Vb w W old root
  x : Dg W gx X
  y : Dg W gy Y
  ne : gx ≠ gy
  fx : w4.heap.size ≤ gx
  fy : w4.heap.size ≤ gy
  f4 : w.heap.size + 1 + 1 ≤ w4.heap.size
  z4 : Below w4.heap.size w4 W
section
variable {w w4 W W' : World} {old root X Y D : List UInt8} {gx gy : Nat}
theorem Vs.on (h : Vs w w4 W old root gx gy X Y) (hb : Below W.heap.size W W') : Vs w w4 W' old root gx gy X Y := ⟨h.v.on hb, h.x.on hb, h.y.on hb, h.ne, h.fx, h.fy, h.f4, bcj h.z4 hb⟩
theorem Vb.aside (h : Vb w W old root) {k : Nat} (hk : w.heap.size + 1 < k) (xs : List Value) : Vb w (W.setCells k 0 xs) old root :=
  ⟨h.a.aside (by omega) _, h.b.aside (by omega) _, h.z.trans (Hash.below_cells (B := w.heap.size) (by omega) _ _ _)⟩
theorem Vs.putx (h : Vs w w4 W old root gx gy X Y) (hd : D.length = 16) : Vs w w4 (W.setCells gx 0 (D.map bv)) old root gx gy D Y :=
  ⟨h.v.aside (by have := h.f4; have := h.fx; omega) _, h.x.put hd, h.y.aside (Ne.symm h.ne) _, h.ne, h.fx, h.fy, h.f4, h.z4.trans (Hash.below_cells h.fx _ _ _)⟩
theorem Vs.puty (h : Vs w w4 W old root gx gy X Y) (hd : D.length = 16) : Vs w w4 (W.setCells gy 0 (D.map bv)) old root gx gy X D :=
  ⟨h.v.aside (by have := h.f4; have := h.fy; omega) _, h.x.aside h.ne _, h.y.put hd, h.ne, h.fx, h.fy, h.f4, h.z4.trans (Hash.below_cells h.fy _ _ _)⟩
end
/-- What came in, and the parts. -/
structure Vq (w w4 W : World) (old root : List UInt8) : Prop where
  v : Vb w W old root
  z : Below w4.heap.size w4 W
theorem Vq.on {w w4 W W' : World} {old root : List UInt8} (h : Vq w w4 W old root) (hb : Below W.heap.size W W') : Vq w w4 W' old root := ⟨h.v.on hb, bcj h.z hb⟩
/-- Two new blocks, in either order. -/
theorem vs_two (w w4 W : World) {old root : List UInt8} (h : Vb w W old root) (h4 : Below w4.heap.size w4 W) (hf : w.heap.size + 1 + 1 ≤ w4.heap.size) (t : TypeId) :
    Vs w w4 ((W.alloc (.cells #[.int .u8 0, .int .u8 0, .int .u8 0, .int .u8 0, .int .u8 0, .int .u8 0, .int .u8 0, .int .u8 0, .int .u8 0, .int .u8 0, .int .u8 0, .int .u8 0, .int .u8 0, .int .u8 0, .int .u8 0, .int .u8 0] t)).alloc (.cells #[.int .u8 0, .int .u8 0, .int .u8 0, .int .u8 0, .int .u8 0, .int .u8 0, .int .u8 0, .int .u8 0, .int .u8 0, .int .u8 0, .int .u8 0, .int .u8 0, .int .u8 0, .int .u8 0, .int .u8 0, .int .u8 0] t)) old root W.heap.size (W.heap.size + 1) zero zero ∧
    Vs w w4 ((W.alloc (.cells #[.int .u8 0, .int .u8 0, .int .u8 0, .int .u8 0, .int .u8 0, .int .u8 0, .int .u8 0, .int .u8 0, .int .u8 0, .int .u8 0, .int .u8 0, .int .u8 0, .int .u8 0, .int .u8 0, .int .u8 0, .int .u8 0] t)).alloc (.cells #[.int .u8 0, .int .u8 0, .int .u8 0, .int .u8 0, .int .u8 0, .int .u8 0, .int .u8 0, .int .u8 0, .int .u8 0, .int .u8 0, .int .u8 0, .int .u8 0, .int .u8 0, .int .u8 0, .int .u8 0, .int .u8 0] t)) old root (W.heap.size + 1) W.heap.size zero zero := by
  have h1 := dg_zero W t
  have h2 := dg_zero (W.alloc (.cells #[.int .u8 0, .int .u8 0, .int .u8 0, .int .u8 0, .int .u8 0, .int .u8 0, .int .u8 0, .int .u8 0, .int .u8 0, .int .u8 0, .int .u8 0, .int .u8 0, .int .u8 0, .int .u8 0, .int .u8 0, .int .u8 0] t)) t
  rw [Wire.size_alloc] at h2
  have z1 := Wire.b1 W (.cells #[.int .u8 0, .int .u8 0, .int .u8 0, .int .u8 0, .int .u8 0, .int .u8 0, .int .u8 0, .int .u8 0, .int .u8 0, .int .u8 0, .int .u8 0, .int .u8 0, .int .u8 0, .int .u8 0, .int .u8 0, .int .u8 0] t)
  have z2 := Wire.b1 (W.alloc (.cells #[.int .u8 0, .int .u8 0, .int .u8 0, .int .u8 0, .int .u8 0, .int .u8 0, .int .u8 0, .int .u8 0, .int .u8 0, .int .u8 0, .int .u8 0, .int .u8 0, .int .u8 0, .int .u8 0, .int .u8 0, .int .u8 0] t)) (.cells #[.int .u8 0, .int .u8 0, .int .u8 0, .int .u8 0, .int .u8 0, .int .u8 0, .int .u8 0, .int .u8 0, .int .u8 0, .int .u8 0, .int .u8 0, .int .u8 0, .int .u8 0, .int .u8 0, .int .u8 0, .int .u8 0] t)
  have hv := (h.on z1).on z2
  have h3 := h1.on z2
  have h5 := bcj (bcj h4 z1) z2
  have hs := h4.size
  exact ⟨⟨hv, h3, h2, by omega, hs, by omega, hf, h5⟩, ⟨hv, h2, h3, by omega, by omega, hs, hf, h5⟩⟩
/-- What the loop has in its round. -/
structure Vt (w w4 W : World) (old root : List UInt8) (gx gy : Nat) (X Y : List UInt8) (ge : Nat) (E : List UInt8) : Prop where
  s : Vs w w4 W old root gx gy X Y
  e : Dg W ge E
  nx : ge ≠ gx
  ny : ge ≠ gy
section
variable {w w4 W W' : World} {old root X Y D E : List UInt8} {gx gy ge : Nat}
theorem Vt.on (h : Vt w w4 W old root gx gy X Y ge E) (hb : Below W.heap.size W W') : Vt w w4 W' old root gx gy X Y ge E := ⟨h.s.on hb, h.e.on hb, h.nx, h.ny⟩
theorem Vt.putx (h : Vt w w4 W old root gx gy X Y ge E) (hd : D.length = 16) : Vt w w4 (W.setCells gx 0 (D.map bv)) old root gx gy D Y ge E := ⟨h.s.putx hd, h.e.aside h.nx _, h.nx, h.ny⟩
theorem Vt.puty (h : Vt w w4 W old root gx gy X Y ge E) (hd : D.length = 16) : Vt w w4 (W.setCells gy 0 (D.map bv)) old root gx gy X D ge E := ⟨h.s.puty hd, h.e.aside h.ny _, h.nx, h.ny⟩
theorem vt_new (h : Vs w w4 W old root gx gy X Y) (he : E.length = 16) (t : TypeId) : Vt w w4 ((W.alloc (.cells #[.int .u8 0, .int .u8 0, .int .u8 0, .int .u8 0, .int .u8 0, .int .u8 0, .int .u8 0, .int .u8 0, .int .u8 0, .int .u8 0, .int .u8 0, .int .u8 0, .int .u8 0, .int .u8 0, .int .u8 0, .int .u8 0] t)).setCells W.heap.size 0 (E.map bv)) old root gx gy X Y W.heap.size E :=
  ⟨h.on ((Wire.b1 _ _).trans (Hash.below_cells (Nat.le_refl _) _ _ _)), (dg_zero W t).put he, by have := h.x.lt; omega, by have := h.y.lt; omega⟩
end
theorem preI_in {m n : Nat} {old root : List UInt8} {p : List (List UInt8)} (h1 : 1 ≤ m) (hm : m ≤ n) :
    preI (m : Int) (n : Int) old root p = (decide (p.length = (grow 0 n m).length) && ((fpr HH old m (grow 0 n m).reverse p.reverse).1 == old && (fpr HH old m (grow 0 n m).reverse p.reverse).2 == root)) := by
  have h := grow_pair HH zero old n 0 n m p.reverse (by omega) (by omega) hm
  rw [Nat.sub_zero, Nat.sub_zero, decide_eq_true rfl, List.length_reverse] at h
  unfold preI
  rw [if_pos (by omega), Int.toNat_natCast, Int.toNat_natCast, h.1]
  by_cases hl : p.length = (grow 0 n m).length
  · rw [h.2 hl, decide_eq_true hl, Bool.true_and, Bool.true_and]
  · rw [decide_eq_false hl, Bool.false_and, Bool.false_and, Bool.false_and]
/-- One part and one element more. -/
theorem fpr_next {old : List UInt8} {m k : Nat} {ps : List (Nat × Nat)} {p : List (List UInt8)} {a : Nat × Nat} {e : List UInt8} (ha : ps[k]? = some a) (he : p[k]? = some e) :
    fpr HH old m (ps.take (k + 1)).reverse (p.take (k + 1)).reverse = if a.2 = m then (e, e)
    else if a.2 < m then (HH.node e (fpr HH old m (ps.take k).reverse (p.take k).reverse).1, HH.node e (fpr HH old m (ps.take k).reverse (p.take k).reverse).2)
    else ((fpr HH old m (ps.take k).reverse (p.take k).reverse).1, HH.node (fpr HH old m (ps.take k).reverse (p.take k).reverse).2 e) := by
  rw [List.take_add_one, List.take_add_one, ha, he]
  simp only [Option.toList_some, List.reverse_append, List.reverse_singleton, List.singleton_append]
  rw [fpr]
theorem fpr_len {old : List UInt8} (ho : old.length = 16) (m : Nat) : ∀ (ps : List (Nat × Nat)) (p : List (List UInt8)), (∀ e ∈ p, e.length = 16) → (fpr HH old m ps p).1.length = 16 ∧ (fpr HH old m ps p).2.length = 16
  | [], _, _ => by rw [fpr]; exact ⟨ho, ho⟩; intro _ _ _ _ h; cases h
  | _ :: _, [], _ => by rw [fpr]; exact ⟨ho, ho⟩; intro _ _ _ _ _ h; cases h
  | a :: ps, x :: p, h => by
    have ih := fpr_len ho m ps p (fun e he => h e (List.mem_cons_of_mem _ he))
    have hx := h x (List.mem_cons_self ..)
    rw [fpr]
    split
    · exact ⟨hx, hx⟩
    · split
      · exact ⟨node_length _ _, node_length _ _⟩
      · exact ⟨ih.1, node_length _ _⟩

set_option maxRecDepth 100000 in
set_option maxHeartbeats 8000000 in
theorem verifyPrefix_any (old root : List UInt8) (ho : old.length = 16) (hr : root.length = 16) (p : List (List UInt8)) (m n q c : Nat) (A : Option Addr) (w : World) (hl : LiesD w w.heap.size A q c p) (ht : TP w) (h1 : 1 ≤ m) (hm : m ≤ n) (hn : n ≤ 9223372036854775807) :
    Calls Tryd.prog 20 #[dv old, dv root, .int .i64 (m : Int), .int .i64 (n : Int), .slice A q c] w (GivesT (preI (m : Int) (n : Int) old root p) w) := by
  rw [preI_in h1 hm]
  have Y := vb_new w ho hr 29 29
  have HTT := Lib.hid ht
  have hpl := hl.len
  have hmost : c ≤ 9223372036854775807 := by have := hl.lies.most; unfold maxLen at this; omega
  have hle := hl.lies.le
  have HS : Hid (∀ W, Calls Tryd.prog 37 #[.agg #[.int .i64 0, .int .i64 (n : Int)], .int .i64 (m : Int)] W (GivesS (grow 0 n m) W)) := Lib.hid (fun W => growth_any n 0 n m W (by omega) hn (by omega) hm)
  have hgl := grow_length 63 0 n m (by have : (2 : Nat) ^ 63 = 9223372036854775808 := by decide
                                       omega)
  generalize grow 0 n m = ps at *
  have z0 : ¬ (m : Int) < 1 := by omega
  have z1 : ¬ (n : Int) < (m : Int) := by omega
  have HO := Lib.hid ho
  have HR := Lib.hid hr
  rw [hpl]
  by_cases hq : q = ps.length
  · have hgl2 : q ≤ 64 := by omega
    rw [decide_eq_true hq, Bool.true_and]
    have HQ := Lib.hid hq
    have HPL := Lib.hid hpl
    have HOK := Lib.hid hl.ok
    have hq2 : ((q : Nat) : Int) = (ps.length : Int) := by omega
    clear h1 hm hn hpl hgl ho hr hq
    unfold dv
    go_enter Tryd.func20, Tryd.ntmps20
    go_wp2_with (go_at_call 37; (with_reducible refine (HS.out _).mono ?_); rintro e w4 ⟨v4, m4, rfl, ho, hb⟩; have hm4 := ho.len; obtain ⟨A4, c4, rfl, hp4⟩ := ho.form; have hm5 : m4 = q := by omega
                 subst hm5; have HF := Lib.hid (show w.heap.size + 1 + 1 ≤ w4.heap.size by have := hb.size; rw [Wire.size_alloc, Wire.size_alloc] at this; exact this); have HP4 := Lib.hid hp4; replace Y := Y.on hb; clear hb ho hp4)
    refine RegC.regionK (fun W => Vq w w4 W old root) [] (fun x y W => Vs w w4 W old root x y old old) (fun a x y => (((a.put (some 33) (.agg (old.map bv).toArray)).put (some 34) (.agg (old.map bv).toArray)).put (some 12) (.pointer (some ⟨x, 0, none⟩))).put (some 13) (.pointer (some ⟨y, 0, none⟩))) (by kernel_rfl) (fun _ _ d _ _ h => by cases d <;> exact h) ?_ ?_
    · intro Q' hQ cont
      have hY : Vq w w4 w4.drew old root := ⟨Y.on (Hash.belowD _), Hash.belowD _⟩
      clear Y
      have Y := hY
      clear hY
      (refine RegC.take (i := 0) (v := (.agg (old.map bv).toArray)) rfl (by kernel_rfl) (by kernel_rfl) (by kernel_rfl) (by kernel_rfl) (by kernel_rfl) (fun _ _ _ h => hQ _ _ _ _ _ h) (Or.inl ⟨by rfl, fun W hW => ?_⟩) Y ?_; focus (exact (RegC.exec_rowC 29 (.tmp 5) rfl w.heap.size 0 (by go_simp) (old.map bv) _ hW.v.a.range und_d rfl (info_d HO.out))))
      (refine RegC.take (i := 1) (v := (.agg (old.map bv).toArray)) rfl (by kernel_rfl) (by kernel_rfl) (by kernel_rfl) (by kernel_rfl) (by kernel_rfl) (fun _ _ _ h => hQ _ _ _ _ _ h) (Or.inl ⟨by rfl, fun W hW => ?_⟩) Y ?_; focus (exact (RegC.exec_rowC 29 (.tmp 5) rfl w.heap.size 0 (by go_simp) (old.map bv) _ hW.v.a.range und_d rfl (info_d HO.out))))
      have H2 := Lib.hid (vs_two w w4 w4.drew Y.v Y.z HF.out 29)
      have hsz : w4.drew.heap.size = w4.heap.size := rfl
      refine RegC.ready (rs := [2, 3]) (by kernel_rfl) (by simp) ?_
      refine RegC.consRun 2 rfl rfl (.pointer (some ⟨w4.heap.size, 0, none⟩)) (w4.drew.alloc (.cells #[.int .u8 0, .int .u8 0, .int .u8 0, .int .u8 0, .int .u8 0, .int .u8 0, .int .u8 0, .int .u8 0, .int .u8 0, .int .u8 0, .int .u8 0, .int .u8 0, .int .u8 0, .int .u8 0, .int .u8 0, .int .u8 0] 29)) (by go_simp) (fun _ => Y.on (Wire.b1 _ _)) ?_ ?_
      · refine RegC.run1 3 (by kernel_rfl) rfl rfl (.pointer (some ⟨w4.heap.size + 1, 0, none⟩)) ((w4.drew.alloc (.cells #[.int .u8 0, .int .u8 0, .int .u8 0, .int .u8 0, .int .u8 0, .int .u8 0, .int .u8 0, .int .u8 0, .int .u8 0, .int .u8 0, .int .u8 0, .int .u8 0, .int .u8 0, .int .u8 0, .int .u8 0, .int .u8 0] 29)).alloc (.cells #[.int .u8 0, .int .u8 0, .int .u8 0, .int .u8 0, .int .u8 0, .int .u8 0, .int .u8 0, .int .u8 0, .int .u8 0, .int .u8 0, .int .u8 0, .int .u8 0, .int .u8 0, .int .u8 0, .int .u8 0, .int .u8 0] 29)) (by go_simp) (fun _ => (Y.on (Wire.b1 _ _)).on (Wire.b1 _ _)) ?_
        have HV := H2.out.1
        refine RegC.store1 4 (by kernel_rfl) rfl rfl 29 (.tmp 12) (.tmp 33) rfl w4.heap.size 0 (old.map bv).toArray (by go_simp) (by go_simp) (HV.x.thereA HO.out) (info_dA HO.out) (one_d old) ⟨(HV.putx HO.out).v, (HV.putx HO.out).z4⟩ ?_
        replace HV : Vs w w4 _ old root w4.heap.size (w4.heap.size + 1) old zero := HV.putx HO.out
        refine RegC.store1 5 (by kernel_rfl) rfl rfl 29 (.tmp 13) (.tmp 34) rfl (w4.heap.size + 1) 0 (old.map bv).toArray (by go_simp) (by go_simp) (HV.y.thereA HO.out) (info_dA HO.out) (one_d old) ⟨(HV.puty HO.out).v, (HV.puty HO.out).z4⟩ ?_
        refine RegC.done (by kernel_rfl) ?_
        exact cont _ _ _ (HV.puty HO.out)
      · refine RegC.consRun 3 rfl rfl (.pointer (some ⟨w4.heap.size, 0, none⟩)) (w4.drew.alloc (.cells #[.int .u8 0, .int .u8 0, .int .u8 0, .int .u8 0, .int .u8 0, .int .u8 0, .int .u8 0, .int .u8 0, .int .u8 0, .int .u8 0, .int .u8 0, .int .u8 0, .int .u8 0, .int .u8 0, .int .u8 0, .int .u8 0] 29)) (by go_simp) (fun _ => Y.on (Wire.b1 _ _)) ?_ RegC.nil
        refine RegC.run1 2 (by kernel_rfl) rfl rfl (.pointer (some ⟨w4.heap.size + 1, 0, none⟩)) ((w4.drew.alloc (.cells #[.int .u8 0, .int .u8 0, .int .u8 0, .int .u8 0, .int .u8 0, .int .u8 0, .int .u8 0, .int .u8 0, .int .u8 0, .int .u8 0, .int .u8 0, .int .u8 0, .int .u8 0, .int .u8 0, .int .u8 0, .int .u8 0] 29)).alloc (.cells #[.int .u8 0, .int .u8 0, .int .u8 0, .int .u8 0, .int .u8 0, .int .u8 0, .int .u8 0, .int .u8 0, .int .u8 0, .int .u8 0, .int .u8 0, .int .u8 0, .int .u8 0, .int .u8 0, .int .u8 0, .int .u8 0] 29)) (by go_simp) (fun _ => (Y.on (Wire.b1 _ _)).on (Wire.b1 _ _)) ?_
        have HV := H2.out.2
        refine RegC.store1 4 (by kernel_rfl) rfl rfl 29 (.tmp 12) (.tmp 33) rfl (w4.heap.size + 1) 0 (old.map bv).toArray (by go_simp) (by go_simp) (HV.x.thereA HO.out) (info_dA HO.out) (one_d old) ⟨(HV.putx HO.out).v, (HV.putx HO.out).z4⟩ ?_
        replace HV : Vs w w4 _ old root (w4.heap.size + 1) w4.heap.size old zero := HV.putx HO.out
        refine RegC.store1 5 (by kernel_rfl) rfl rfl 29 (.tmp 13) (.tmp 34) rfl w4.heap.size 0 (old.map bv).toArray (by go_simp) (by go_simp) (HV.y.thereA HO.out) (info_dA HO.out) (one_d old) ⟨(HV.puty HO.out).v, (HV.puty HO.out).z4⟩ ?_
        refine RegC.done (by kernel_rfl) ?_
        have hc := cont _ _ _ (HV.puty HO.out)
        rw [Act.put_comm _ _ _ (by decide)] at hc
        exact hc
    · intro gx gy W Y4
      clear Y
      have Y := Y4
      clear Y4
      have HRE : Hid (∀ W k e, Vb w W old root → p[k]? = some e → ∃ b o, A = some ⟨b, o, none⟩ ∧ b < w.heap.size ∧ W.rangeAt b (o + k * 16) (e.map bv)) := Lib.hid (fun W k e hv he => (hl.below hv.z).row he)
      have HRP : Hid (∀ W k a, Below w4.heap.size w4 W → ps[k]? = some a → ∃ b o, A4 = some ⟨b, o, none⟩ ∧ b < w4.heap.size ∧ W.rangeAt b (o + k * 2) (ptc a.1 a.2)) := Lib.hid (fun W k a hz ha => parts_row (HP4.out.below hz) ha)
      have HFL : Hid (∀ k, (fpr HH old m (ps.take k).reverse (p.take k).reverse).1.length = 16 ∧ (fpr HH old m (ps.take k).reverse (p.take k).reverse).2.length = 16) := Lib.hid (fun k => fpr_len HO.out m _ _ (fun e he => HOK.out e (List.mem_of_mem_take (List.mem_reverse.1 he))))
      have HND : Hid (∀ (a b : List UInt8) W, a.length = 16 → b.length = 16 → Below w.heap.size w W → Calls Tryd.prog 42 #[dv a, dv b] W (GivesD (HH.node a b) W)) := Lib.hid (fun a b W ha hb hz => node_any a b ha hb W (HTT.out.on hz))
      clear hl ht
      go_wp2
      go_loopw [37] (fun kv wr => ∃ (k : Nat), k ≤ m4 ∧ kv = .int .i64 (k : Int) ∧ Vs w w4 wr old root gx gy (fpr HH old m (ps.take k).reverse (p.take k).reverse).1 (fpr HH old m (ps.take k).reverse (p.take k).reverse).2) (fun kv _ => (m4 - intOf kv).toNat)
      case atStart => exact ⟨0, by omega, rfl, by rw [List.take_zero, List.take_zero, List.reverse_nil, List.reverse_nil, fpr_nil]; exact Y⟩
      case round =>
        obtain ⟨k, hk, rfl, Y0⟩ := hrel
        clear Y
        have Y := Y0
        clear Y0
        by_cases hkn : k < m4
        · obtain ⟨E, hE⟩ : ∃ e, p[k]? = some e := ⟨_, List.getElem?_eq_getElem (by rw [HPL.out]; exact hkn)⟩
          obtain ⟨⟨lo, hi⟩, hpa⟩ : ∃ a, ps[k]? = some a := ⟨_, List.getElem?_eq_getElem (by rw [← HQ.out]; exact hkn)⟩
          have hEl := HOK.out E (List.mem_of_getElem? hE)
          have HEL := Lib.hid hEl
          obtain ⟨b, o, rfl, hb, hr1⟩ := HRE.out wr k E Y.v hE
          obtain ⟨b4, o4, rfl, hb4, -⟩ := HRP.out wr k _ Y.z4 hpa
          have HR4 : Hid (∀ W, Below w4.heap.size w4 W → W.rangeAt b4 (o4 + k * 2) (ptc lo hi)) := Lib.hid (fun W hz => by
            obtain ⟨b', o', e', -, h'⟩ := HRP.out W k _ hz hpa
            cases e'
            exact h')
          have hfl := HFL.out k
          have HNX := Lib.hid (fpr_next (old := old) (m := m) hpa hE)
          generalize (fpr HH old m (ps.take k).reverse (p.take k).reverse).1 = X at *
          generalize (fpr HH old m (ps.take k).reverse (p.take k).reverse).2 = X2 at *
          obtain ⟨hX, hX2⟩ := hfl
          have HX := Lib.hid hX
          have HX2 := Lib.hid hX2
          have y0 : (0 : Int) ≤ (k : Int) := by omega
          have y1 : (k : Int) < (m4 : Int) := by omega
          clear hE hpa hEl hX hX2 hb hb4 HRE HRP HFL
          by_cases h1 : hi = m
          · have HF1 : Hid (fpr HH old m (ps.take (k + 1)).reverse (p.take (k + 1)).reverse = (E, E)) := Lib.hid (by rw [HNX.out, if_pos h1])
            have W1 : Hid ((hi : Int) = (m : Int)) := Lib.hid (by omega)
            clear HNX h1
            go_wp2_with (first
              | (refine load_d 41 rfl rfl (.tmp 40) rfl b (o + k * 16) rfl E HEL.out hr1 ?_)
              | (refine store_d (.tmp 15) (.tmp 41) rfl rfl wr.heap.size 0 rfl E rfl HEL.out (dg_zero wr _).there ?_; refine Hash.gen_world (Pq := fun W => Vt w w4 W old root gx gy X X2 wr.heap.size E) (G := fun W => wpList _ _ _ _ _ W) (vt_new Y HEL.out _) ?_; clear Y hr1; intro w7 Y)
              | (refine load_pt 45 rfl rfl (.tmp 44) rfl b4 (o4 + k * 2) rfl lo hi (HR4.out _ Y.s.z4) ?_; unfold ptv)
              | (refine store_pt (.tmp 16) (.tmp 45) rfl rfl w7.heap.size 0 rfl lo hi rfl (pt_new w7 0 0 _).there ?_; refine Hash.gen_world (Pq := fun W => Vt w w4 W old root gx gy X X2 wr.heap.size E ∧ Pt W w7.heap.size lo hi) (G := fun W => wpList _ _ _ _ _ W) ⟨Y.on ((Wire.b1 _ _).trans (Hash.below_cells (Nat.le_refl _) _ _ _)), (pt_new w7 0 0 _).put⟩ ?_; clear Y; intro w9 Y9; obtain ⟨Y, hp9⟩ := Y9; have c9 := hp9.hi; rw [W1.out] at c9; clear hp9))
            clear c9
            refine RegC.region (fun W => ∃ a b, Vt w w4 W old root gx gy a b wr.heap.size E) [] (by kernel_rfl) ?_
            have Y9 := Lib.hid (Y.on (Hash.belowD _))
            clear Y
            have Y : ∃ a b, Vt w w4 (World.drew w9) old root gx gy a b wr.heap.size E := ⟨_, _, Y9.out⟩
            (refine RegC.take (i := 0) (v := (dv E)) rfl (by kernel_rfl) (by kernel_rfl) (by kernel_rfl) (by kernel_rfl) (by kernel_rfl) (fun _ _ _ h => h) (Or.inl ⟨by rfl, fun W hW => ?_⟩) Y ?_; focus (exact (by obtain ⟨a', b', hV⟩ := hW; exact RegC.exec_rowC 29 (.tmp 15) rfl wr.heap.size 0 (by go_simp) (E.map bv) _ hV.e.range und_d rfl (info_d HEL.out))))
            (refine RegC.take (i := 1) (v := (dv E)) rfl (by kernel_rfl) (by kernel_rfl) (by kernel_rfl) (by kernel_rfl) (by kernel_rfl) (fun _ _ _ h => h) (Or.inl ⟨by rfl, fun W hW => ?_⟩) Y ?_; focus (exact (by obtain ⟨a', b', hV⟩ := hW; exact RegC.exec_rowC 29 (.tmp 15) rfl wr.heap.size 0 (by go_simp) (E.map bv) _ hV.e.range und_d rfl (info_d HEL.out))))
            clear Y
            have HV := Y9.out
            refine RegC.store1 2 (by kernel_rfl) rfl rfl 29 (.tmp 12) (.tmp 54) rfl gx 0 (E.map bv).toArray (by go_simp) (by go_simp; rfl) (HV.s.x.thereA HEL.out) (info_dA HEL.out) (one_d E) ⟨_, _, HV.putx HEL.out⟩ ?_
            replace HV : Vt w w4 _ old root gx gy E X2 wr.heap.size E := HV.putx HEL.out
            refine RegC.store1 3 (by kernel_rfl) rfl rfl 29 (.tmp 13) (.tmp 55) rfl gy 0 (E.map bv).toArray (by go_simp) (by go_simp; rfl) (HV.s.y.thereA HEL.out) (info_dA HEL.out) (one_d E) ⟨_, _, HV.puty HEL.out⟩ ?_
            refine RegC.done (by kernel_rfl) ?_
            have Y := HV.puty HEL.out
            clear HV Y9
            go_simp
            go_wp2
            go_roundw
            case rel => exact ⟨k + 1, by omega, by go_num, by rw [HF1.out]; exact Y.s⟩
            case measure => simp [intOf]; omega
          · have w1 : ¬ (hi : Int) = (m : Int) := by omega
            have w1b : ((hi : Int) == (m : Int)) = false := by simpa using w1
            by_cases h2 : hi < m
            · have HF1 : Hid (fpr HH old m (ps.take (k + 1)).reverse (p.take (k + 1)).reverse = (HH.node E X, HH.node E X2)) := Lib.hid (by rw [HNX.out, if_neg h1, if_pos h2])
              have w2 : (hi : Int) < (m : Int) := by omega
              have HN1 : Hid (∀ W, Vt w w4 W old root gx gy X X2 wr.heap.size E → Calls Tryd.prog 42 #[.agg (E.map bv).toArray, .agg (X.map bv).toArray] W (GivesD (HH.node E X) W)) := Lib.hid (fun W h => HND.out E X W HEL.out HX.out h.s.v.z)
              have HN2 : Hid (∀ W, Vt w w4 W old root gx gy X X2 wr.heap.size E → Calls Tryd.prog 42 #[.agg (E.map bv).toArray, .agg (X2.map bv).toArray] W (GivesD (HH.node E X2) W)) := Lib.hid (fun W h => HND.out E X2 W HEL.out HX2.out h.s.v.z)
              have HL1 := Lib.hid (node_length E X)
              have HL2 := Lib.hid (node_length E X2)
              generalize HH.node E X = N1 at *
              generalize HH.node E X2 = N2 at *
              have HLE : Hid (∀ W, Vt w w4 W old root gx gy X X2 wr.heap.size E → W.rangeAt wr.heap.size 0 (E.map bv)) := Lib.hid (fun W h => h.e.range)
              have HLX : Hid (∀ W, Vt w w4 W old root gx gy X X2 wr.heap.size E → W.rangeAt gx 0 (X.map bv)) := Lib.hid (fun W h => h.s.x.range)
              have HLY : Hid (∀ W, Vt w w4 W old root gx gy X X2 wr.heap.size E → W.rangeAt gy 0 (X2.map bv)) := Lib.hid (fun W h => h.s.y.range)
              clear HNX h1 h2
              go_wp2_with (first
                | (refine load_d 41 rfl rfl (.tmp 40) rfl b (o + k * 16) rfl E HEL.out hr1 ?_)
                | (refine store_d (.tmp 15) (.tmp 41) rfl rfl wr.heap.size 0 rfl E rfl HEL.out (dg_zero wr _).there ?_; refine Hash.gen_world (Pq := fun W => Vt w w4 W old root gx gy X X2 wr.heap.size E) (G := fun W => wpList _ _ _ _ _ W) (vt_new Y HEL.out _) ?_; clear Y hr1; intro w7 Y)
                | (refine load_pt 45 rfl rfl (.tmp 44) rfl b4 (o4 + k * 2) rfl lo hi (HR4.out _ Y.s.z4) ?_; unfold ptv)
                | (refine store_pt (.tmp 16) (.tmp 45) rfl rfl w7.heap.size 0 rfl lo hi rfl (pt_new w7 0 0 _).there ?_; refine Hash.gen_world (Pq := fun W => Vt w w4 W old root gx gy X X2 wr.heap.size E ∧ Pt W w7.heap.size lo hi) (G := fun W => wpList _ _ _ _ _ W) ⟨Y.on ((Wire.b1 _ _).trans (Hash.below_cells (Nat.le_refl _) _ _ _)), (pt_new w7 0 0 _).put⟩ ?_; clear Y; intro w9 Y9; obtain ⟨Y, hp9⟩ := Y9; have c9 := hp9.hi; clear hp9))
              clear c9
              refine QTail.region (C := fun W => Vt w w4 W old root gx gy X X2 wr.heap.size E) 6 (by kernel_rfl) (by kernel_rfl) (Y.on (Hash.belowD _)) ?_
              refine QTail.loadC (by rfl) 29 (.tmp 15) rfl wr.heap.size 0 rfl (E.map bv) _ HLE.out und_d rfl (info_d HEL.out) ?_
              refine QTail.loadC (by rfl) 29 (.tmp 12) rfl gx 0 rfl (X.map bv) _ HLX.out und_d rfl (info_d HX.out) ?_
              (refine wpQuiet_step (fun K hK => ?_); go_simp; refine ⟨_, fun W hW => (HN1.out W hW).mono fun e w' ⟨he, hb⟩ => ⟨he, hW.on hb⟩, hK _ ?_⟩; clear hK K)
              refine QTail.loadC (by rfl) 29 (.tmp 15) rfl wr.heap.size 0 rfl (E.map bv) _ HLE.out und_d rfl (info_d HEL.out) ?_
              refine QTail.loadC (by rfl) 29 (.tmp 13) rfl gy 0 rfl (X2.map bv) _ HLY.out und_d rfl (info_d HX2.out) ?_
              (refine wpQuiet_step (fun K hK => ?_); go_simp; refine ⟨_, fun W hW => (HN2.out W hW).mono fun e w' ⟨he, hb⟩ => ⟨he, hW.on hb⟩, hK _ ?_⟩; clear hK K)
              refine wpQuiet_nil ?_
              clear Y
              intro w10 Y
              refine store_d (.tmp 12) (.tmp 63) rfl rfl gx 0 rfl N1 rfl HL1.out Y.s.x.there ?_
              replace Y : Vt w w4 _ old root gx gy N1 X2 wr.heap.size E := Y.putx HL1.out
              refine store_d (.tmp 13) (.tmp 66) rfl rfl gy 0 rfl N2 rfl HL2.out Y.s.y.there ?_
              replace Y : Vt w w4 _ old root gx gy N1 N2 wr.heap.size E := Y.puty HL2.out
              refine Hash.gen_world (Pq := fun W => Vt w w4 W old root gx gy N1 N2 wr.heap.size E) (G := fun W => wpList _ _ _ _ _ W) Y ?_
              clear Y
              intro w11 Y
              go_wp2
              go_roundw
              case rel => exact ⟨k + 1, by omega, by go_num, by rw [HF1.out]; exact Y.s⟩
              case measure => simp [intOf]; omega
            · have HF1 : Hid (fpr HH old m (ps.take (k + 1)).reverse (p.take (k + 1)).reverse = (X, HH.node X2 E)) := Lib.hid (by rw [HNX.out, if_neg h1, if_neg h2])
              have w2 : ¬ (hi : Int) < (m : Int) := by omega
              have HN1 : Hid (∀ W, Vt w w4 W old root gx gy X X2 wr.heap.size E → Calls Tryd.prog 42 #[.agg (X2.map bv).toArray, .agg (E.map bv).toArray] W (GivesD (HH.node X2 E) W)) := Lib.hid (fun W h => HND.out X2 E W HX2.out HEL.out h.s.v.z)
              have HL1 := Lib.hid (node_length X2 E)
              generalize HH.node X2 E = N1 at *
              clear HNX h1 h2
              go_wp2_with (first
                | (refine load_d 41 rfl rfl (.tmp 40) rfl b (o + k * 16) rfl E HEL.out hr1 ?_)
                | (refine store_d (.tmp 15) (.tmp 41) rfl rfl wr.heap.size 0 rfl E rfl HEL.out (dg_zero wr _).there ?_; refine Hash.gen_world (Pq := fun W => Vt w w4 W old root gx gy X X2 wr.heap.size E) (G := fun W => wpList _ _ _ _ _ W) (vt_new Y HEL.out _) ?_; clear Y hr1; intro w7 Y)
                | (refine load_pt 45 rfl rfl (.tmp 44) rfl b4 (o4 + k * 2) rfl lo hi (HR4.out _ Y.s.z4) ?_; unfold ptv)
                | (refine store_pt (.tmp 16) (.tmp 45) rfl rfl w7.heap.size 0 rfl lo hi rfl (pt_new w7 0 0 _).there ?_; refine Hash.gen_world (Pq := fun W => Vt w w4 W old root gx gy X X2 wr.heap.size E ∧ Pt W w7.heap.size lo hi) (G := fun W => wpList _ _ _ _ _ W) ⟨Y.on ((Wire.b1 _ _).trans (Hash.below_cells (Nat.le_refl _) _ _ _)), (pt_new w7 0 0 _).put⟩ ?_; clear Y; intro w9 Y9; obtain ⟨Y, hp9⟩ := Y9; have c9 := hp9.hi; clear hp9)
                | (refine load_d 46 rfl rfl (.tmp 13) rfl gy 0 rfl X2 HX2.out Y.s.y.range ?_)
                | (refine load_d 47 rfl rfl (.tmp 15) rfl wr.heap.size 0 rfl E HEL.out Y.e.range ?_; unfold dv)
                | (go_at_call 42; (with_reducible refine (HN1.out _ Y).mono ?_); rintro e w10 ⟨rfl, hb⟩; replace Y := Y.on hb; clear hb; unfold dv)
                | (refine store_d (.tmp 13) (.tmp 48) rfl rfl gy 0 rfl N1 rfl HL1.out Y.s.y.there ?_; refine Hash.gen_world (Pq := fun W => Vt w w4 W old root gx gy X N1 wr.heap.size E) (G := fun W => wpList _ _ _ _ _ W) (Y.puty HL1.out) ?_; clear Y; intro w11 Y))
              go_roundw
              case rel => exact ⟨k + 1, by omega, by go_num, by rw [HF1.out]; exact Y.s⟩
              case measure => simp [intOf]; omega
        · obtain rfl : k = m4 := by omega
          have y1 : ¬ ((k : Nat) : Int) < (k : Int) := by omega
          have hfl := HFL.out k
          rw [show ps.take k = ps from List.take_of_length_le (by rw [← HQ.out]; exact Nat.le_refl _), show p.take k = p from List.take_of_length_le (by rw [HPL.out]; exact Nat.le_refl _)] at Y hfl
          generalize (fpr HH old m ps.reverse p.reverse).1 = X at *
          generalize (fpr HH old m ps.reverse p.reverse).2 = X2 at *
          have E1 := Lib.hid (fun W => eql_d X old hfl.1 HO.out W)
          have E2 := Lib.hid (fun W => eql_d X2 root hfl.2 HR.out W)
          have HX1 := Lib.hid hfl.1
          have HX2 := Lib.hid hfl.2
          clear hfl HFL HRE HRP
          cases hB1 : (X == old) with
          | false =>
            rw [hB1] at E1
            have HB1 := Lib.hid hB1
            have e1 := E1.out
            clear hB1
            go_wp2_with (first
              | (refine load_d 68 rfl rfl (.tmp 12) rfl gx 0 rfl X HX1.out Y.x.range ?_; unfold dv)
              | (refine load_d 69 rfl rfl (.tmp 5) rfl w.heap.size 0 rfl old HO.out Y.v.a.range ?_; unfold dv))
            go_ret
            exact ⟨by rw [HB1.out]; rfl, Y.v.z⟩
          | true =>
            rw [hB1] at E1
            have HB1 := Lib.hid hB1
            have e1 := E1.out
            have e2 := E2.out
            clear hB1
            go_wp2_with (first
              | (refine load_d 68 rfl rfl (.tmp 12) rfl gx 0 rfl X HX1.out Y.x.range ?_; unfold dv)
              | (refine load_d 69 rfl rfl (.tmp 5) rfl w.heap.size 0 rfl old HO.out Y.v.a.range ?_; unfold dv)
              | (refine QTail.loadG (by rfl) 29 (.tmp 13) rfl gy 0 rfl (X2.map bv) _ Y.y.range und_d rfl (info_d HX2.out) ?_)
              | (refine QTail.loadG (by rfl) 29 (.tmp 6) rfl (w.heap.size + 1) 0 rfl (root.map bv) _ Y.v.b.range und_d rfl (info_d HR.out) ?_))
            go_ret
            exact ⟨by rw [HB1.out]; simp, Y.v.z⟩
  · have hq2 : ¬ (q : Int) = (ps.length : Int) := by omega
    have hq3 : ((q : Int) == (ps.length : Int)) = false := by simpa using hq2
    rw [decide_eq_false hq, Bool.false_and]
    clear h1 hm hn hpl hgl ho hr hl ht hq
    unfold dv
    go_enter Tryd.func20, Tryd.ntmps20
    go_wp2_with (go_at_call 37; (with_reducible refine (HS.out _).mono ?_); rintro e w4 ⟨v4, m4, rfl, ho, hb⟩; have hm4 := ho.len; obtain ⟨A4, c4, rfl, hp4⟩ := ho.form; subst hm4; replace Y := Y.on hb; clear hb ho hp4)
    go_ret
    exact ⟨rfl, Y.z⟩
end Mk
end Go.Proofs.YthpkeaafgabjiaaDoor

/- The package merkle: Prove, ProvePrefix. Conditions: the slice reads as a list of digests, the tables are laid. -/
namespace Go.Proofs.YthpkeaafgabjiaaDoor
open Go.RowKit
namespace Mk
open Wire (bv sv Lies own_more)
open Hash (bcj)

set_option maxRecDepth 100000 in
set_option maxHeartbeats 1000000 in
theorem prove_no (n c : Nat) (A : Option Addr) (i : Int) (hi : i < 0 ∨ (n : Int) ≤ i) (w : World) : Calls Tryd.prog 11 #[.slice A n c, .int .i64 i] w (GivesP [] 11 w) := by
  have hi2 : i < 0 ∨ (¬ i < 0 ∧ (n : Int) ≤ i) := by omega
  have H := Lib.hid (ownD_nil w w.heap.size)
  clear hi
  rcases hi2 with h | ⟨h, h2⟩
  all_goals
    go_enter Tryd.func11, Tryd.ntmps11
    go_wp2
    go_ret2
    exact ⟨_, _, rfl, H.out, Below.refl _ _⟩
set_option maxRecDepth 100000 in
set_option maxHeartbeats 1000000 in
theorem provePrefix_no (n c : Nat) (A : Option Addr) (m : Int) (hm : m < 1 ∨ (n : Int) < m) (w : World) : Calls Tryd.prog 13 #[.slice A n c, .int .i64 m] w (GivesP [] 11 w) := by
  have hi2 : m < 1 ∨ (¬ m < 1 ∧ (n : Int) < m) := by omega
  have H := Lib.hid (ownD_nil w w.heap.size)
  clear hm
  rcases hi2 with h | ⟨h, h2⟩
  all_goals
    go_enter Tryd.func13, Tryd.ntmps13
    go_wp2
    go_ret2
    exact ⟨_, _, rfl, H.out, Below.refl _ _⟩

set_option maxRecDepth 100000 in
set_option maxHeartbeats 1000000 in
theorem prove_any (n c i : Nat) (A : Option Addr) (l : List (List UInt8)) (w : World) (hl : LiesD w w.heap.size A n c l) (ht : TP w) (hi : i < n) :
    Calls Tryd.prog 11 #[.slice A n c, .int .i64 (i : Int)] w (GivesP (Mk.prove HH l i) 0 w) := by
  have hln := hl.len
  have hmost : c ≤ 9223372036854775807 := by have := hl.lies.most; unfold maxLen at this; omega
  have hle := hl.lies.le
  have x0 : ¬ (i : Int) < 0 := by omega
  have x1 : ¬ (n : Int) ≤ (i : Int) := by omega
  have Z := Below.refl w.heap.size w
  have hpr := sibs_prove HH l n 0 n i (by omega) (by omega) hi (by omega)
  rw [show cut l 0 n = l by rw [← hln]; exact cut_all l, Nat.sub_zero] at hpr
  rw [← hpr]
  have HS : Hid (∀ W, Calls Tryd.prog 35 #[.agg #[.int .i64 0, .int .i64 (n : Int)], .int .i64 (i : Int)] W (GivesS (sibs 0 n i) W)) := Lib.hid (fun W => siblings_any n 0 n i W (by omega) (by omega) (by omega) hi)
  have hwi := sibs_within n 0 n i (by omega)
  have hsl := sibs_length 63 0 n i (by have : (2 : Nat) ^ 63 = 9223372036854775808 := by decide
                                       omega)
  generalize sibs 0 n i = ps at *
  have HR : Hid (∀ W PA pn pc, Below w.heap.size w W → Lies W W.heap.size 2 PA pn pc (cellsPt ps) → Calls Tryd.prog 34 #[.slice A n c, .slice PA pn pc] W (GivesO (rts HH l ps) W)) :=
    Lib.hid (fun W PA pn pc hz hp => roots_any l ps n c pn pc A PA W ((hl.below hz).more hz.size) hp hwi (ht.on hz) (by have := hp.len; rw [cellsPt_length] at this; omega))
  clear hl ht hln hi hpr hwi hsl
  go_enter Tryd.func11, Tryd.ntmps11
  go_wp2_with (first
    | (go_at_call 35; (with_reducible refine (HS.out _).mono ?_); rintro e w4 ⟨v4, m4, rfl, ho, hb⟩; obtain ⟨A4, c4, rfl, hp4⟩ := ho.form; have HP4 := Lib.hid hp4; replace Z := bcj Z hb; clear hb ho hp4)
    | (go_at_call 34; (with_reducible refine (HR.out _ _ _ _ Z HP4.out).mono ?_); rintro e w5 ⟨v5, m5, rfl, ho, hb⟩; have HO := Lib.hid (ho.more Z.size); replace Z := bcj Z hb; clear hb ho))
  go_ret2
  exact ⟨_, _, rfl, HO.out, Z⟩

set_option maxRecDepth 100000 in
set_option maxHeartbeats 1000000 in
theorem provePrefix_any (n c m : Nat) (A : Option Addr) (l : List (List UInt8)) (w : World) (hl : LiesD w w.heap.size A n c l) (ht : TP w) (h1 : 1 ≤ m) (hm : m ≤ n) :
    Calls Tryd.prog 13 #[.slice A n c, .int .i64 (m : Int)] w (GivesP (Mk.sub HH l m true) 0 w) := by
  have hln := hl.len
  have hmost : c ≤ 9223372036854775807 := by have := hl.lies.most; unfold maxLen at this; omega
  have hle := hl.lies.le
  have x0 : ¬ (m : Int) < 1 := by omega
  have x1 : ¬ (n : Int) < (m : Int) := by omega
  have Z := Below.refl w.heap.size w
  have hpr := grow_sub HH l n 0 n m (by omega) (by omega) hm (by omega)
  rw [show cut l 0 n = l by rw [← hln]; exact cut_all l, Nat.sub_zero, decide_eq_true rfl] at hpr
  rw [← hpr]
  have HS : Hid (∀ W, Calls Tryd.prog 37 #[.agg #[.int .i64 0, .int .i64 (n : Int)], .int .i64 (m : Int)] W (GivesS (grow 0 n m) W)) := Lib.hid (fun W => growth_any n 0 n m W (by omega) (by omega) (by omega) hm)
  have hwi := grow_within n 0 n m (by omega) (by omega)
  have hsl := grow_length 63 0 n m (by have : (2 : Nat) ^ 63 = 9223372036854775808 := by decide
                                       omega)
  generalize grow 0 n m = ps at *
  have HR : Hid (∀ W PA pn pc, Below w.heap.size w W → Lies W W.heap.size 2 PA pn pc (cellsPt ps) → Calls Tryd.prog 34 #[.slice A n c, .slice PA pn pc] W (GivesO (rts HH l ps) W)) :=
    Lib.hid (fun W PA pn pc hz hp => roots_any l ps n c pn pc A PA W ((hl.below hz).more hz.size) hp hwi (ht.on hz) (by have := hp.len; rw [cellsPt_length] at this; omega))
  clear hl ht hln hm h1 hpr hwi hsl
  go_enter Tryd.func13, Tryd.ntmps13
  go_wp2_with (first
    | (go_at_call 37; (with_reducible refine (HS.out _).mono ?_); rintro e w4 ⟨v4, m4, rfl, ho, hb⟩; obtain ⟨A4, c4, rfl, hp4⟩ := ho.form; have HP4 := Lib.hid hp4; replace Z := bcj Z hb; clear hb ho hp4)
    | (go_at_call 34; (with_reducible refine (HR.out _ _ _ _ Z HP4.out).mono ?_); rintro e w5 ⟨v5, m5, rfl, ho, hb⟩; have HO := Lib.hid (ho.more Z.size); replace Z := bcj Z hb; clear hb ho))
  go_ret2
  exact ⟨_, _, rfl, HO.out, Z⟩
end Mk
end Go.Proofs.YthpkeaafgabjiaaDoor

