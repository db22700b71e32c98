/- MLawP; MLawA: what each of these parts proves stands ahead of it. -/
import Derived.Test.YthpkeaafgabjiaaDoorM15
/- MerklePeaksMatchSpec walked. Conditions: what the package answers, that the examples hold, what came in, the tables are laid. -/
namespace Go.Proofs.YthpkeaafgabjiaaDoor
open Go.RowKit
namespace Mk
open Wire (bv sv Lies)
open Hash (Arr bcj)

theorem add_both (pk : Pkg) (n : Int) (k c : Nat) (A : Option Addr) (l : List (List UInt8)) (d : List UInt8) (w : World) (hd : d.length = 16) (hl : LiesD w w.heap.size A k c l) (ht : TT w) : ∃ N L K,
    (∀ W, Below w.heap.size w W → Calls Tryd.prog 28 #[pkv n A k c, dv d] W (GivesK N L K W)) ∧
    (∀ W A2 c2, Below w.heap.size w W → LiesD W W.heap.size A2 k c2 l → Calls Tryd.prog 32 #[pkv n A2 k c2, dv d] W (GivesK N L K W)) := by
  by_cases h : pkOk n k = true
  · have h2 := h
    unfold pkOk at h2
    simp only [Bool.and_eq_true, decide_eq_true_eq] at h2
    by_cases hn : n = 4294967296
    · exact ⟨0, [], 1, fun W hb => pk.addNo n A k c l d W hd ((hl.below hb).more hb.size) (ht.on hb).p (.inr ⟨h, hn⟩), fun W A2 c2 hb _ => refAdd_bad n A2 k c2 d hd (.inr ⟨h, hn⟩) W⟩
    · obtain ⟨m, rfl⟩ : ∃ m : Nat, n = (m : Int) := ⟨n.toNat, by omega⟩
      have hm : m < 4294967296 := by omega
      exact ⟨_, _, _, fun W hb => pk.add m A k c l d W hd ((hl.below hb).more hb.size) (ht.on hb).p h hm, fun W A2 c2 hb hl2 => refAddI m A2 k c2 l d W hd hl2 (ht.on hb) h hm⟩
  · have h : pkOk n k = false := by simpa using h
    exact ⟨0, [], 1, fun W hb => pk.addNo n A k c l d W hd ((hl.below hb).more hb.size) (ht.on hb).p (.inl h), fun W A2 c2 hb _ => refAdd_bad n A2 k c2 d hd (.inl h) W⟩
theorem topOf_length {l : List (List UInt8)} (h : Ok l) : (topOf HH l).length = 16 := by
  cases l with
  | nil => exact nil_length
  | cons x r => exact foldl_len (h x (by simp))
theorem top_both (pk : Pkg) (n : Int) (k c : Nat) (A : Option Addr) (l : List (List UInt8)) (w : World) (hl : LiesD w w.heap.size A k c l) (ht : TT w) : ∃ D K, D.length = 16 ∧
    (∀ W, Below w.heap.size w W → Calls Tryd.prog 29 #[pkv n A k c] W (GivesZ D K W)) ∧
    (∀ W A2 c2, Below w.heap.size w W → LiesD W W.heap.size A2 k c2 l → Calls Tryd.prog 33 #[pkv n A2 k c2] W (GivesZ D K W)) := by
  by_cases h : pkOk n k = true
  · exact ⟨_, _, topOf_length (fun d hd => hl.ok d (List.mem_reverse.1 hd)), fun W hb => pk.top n A k c l W ((hl.below hb).more hb.size) (ht.on hb).p h, fun W A2 c2 hb hl2 => refTopI n A2 k c2 l W hl2 (ht.on hb) h⟩
  · have h : pkOk n k = false := by simpa using h
    exact ⟨zero, 1, rfl, fun W hb => pk.topNo n A k c l W ((hl.below hb).more hb.size) (ht.on hb).p h, fun W A2 c2 hb _ => refTop_bad n A2 k c2 h W⟩
theorem k_new (W : World) (n : Int) (A : Option Addr) (k c : Nat) (t : TypeId) : Below W.heap.size W ((W.alloc (.cells #[.int .i64 0, .slice none 0 0] t)).setCells W.heap.size 0 [.int .i64 n, .slice A k c]) ∧ Pk ((W.alloc (.cells #[.int .i64 0, .slice none 0 0] t)).setCells W.heap.size 0 [.int .i64 n, .slice A k c]) W.heap.size n A k c :=
  ⟨(Wire.b1 _ _).trans (Hash.below_cells (Nat.le_refl _) _ _ _), ⟨(pk_new W 0 none 0 0 t).arr.over (ys := [.int .i64 n, .slice A k c]) rfl⟩⟩
theorem d_new (W : World) {d : List UInt8} (hd : d.length = 16) (t : TypeId) : Below W.heap.size W ((W.alloc (.cells #[.int .u8 0, .int .u8 0, .int .u8 0, .int .u8 0, .int .u8 0, .int .u8 0, .int .u8 0, .int .u8 0, .int .u8 0, .int .u8 0, .int .u8 0, .int .u8 0, .int .u8 0, .int .u8 0, .int .u8 0, .int .u8 0] t)).setCells W.heap.size 0 (d.map bv)) ∧ Dg ((W.alloc (.cells #[.int .u8 0, .int .u8 0, .int .u8 0, .int .u8 0, .int .u8 0, .int .u8 0, .int .u8 0, .int .u8 0, .int .u8 0, .int .u8 0, .int .u8 0, .int .u8 0, .int .u8 0, .int .u8 0, .int .u8 0, .int .u8 0] t)).setCells W.heap.size 0 (d.map bv)) W.heap.size d :=
  ⟨(Wire.b1 _ _).trans (Hash.below_cells (Nat.le_refl _) _ _ _), (dg_zero W t).put hd⟩
section
variable {ops : Array Oper} {rest : List Oper} {o : Oper} {a : Act} {w : World} {Q : Exit → Act → World → Prop}
theorem build_k2 (p q : Operand) (ho : o.op = .build 56 #[(0, p), (1, q)]) (hgd : o.guard = none) {n : Int} {A : Option Addr} {k c : Nat} (hp : a.eval p = .int .i64 n) (hq : a.eval q = .slice A k c)
    (h : wpList Tryd.prog ops Q rest (a.put o.dst (pkv n A k c)) w) : wpList Tryd.prog ops Q (o :: rest) a w := by
  have hb : Tryd.prog.built 56 ((#[(0, p), (1, q)] : Array (Nat × Operand)).map fun (i, x) => (i, a.eval x)).toList = some #[.int .i64 n, .slice A k c] := by
    rw [Array.toList_map]
    simp only [List.map_cons, List.map_nil, hp, hq]
    kernel_rfl
  refine wpList_build hgd _ _ ho (by rw [hb]; rfl) ?_
  rw [hb]
  exact h
end
theorem ownD_lit0 (w : World) {base : Nat} (hb : base ≤ w.heap.size) : OwnD (w.alloc (.cells #[] 29)) base (.slice (some ⟨w.heap.size, 0, none⟩) 0 0) 0 [] :=
  ⟨World.ownsRow_made w #[] 0 hb (by decide) rfl, ok_nil⟩
/-- Peaks and a digest that came in. -/
structure Pd (w W : World) (n : Int) (A : Option Addr) (k c : Nat) (d : List UInt8) : Prop where
  p : Pk W w.heap.size n A k c
  d : Dg W (w.heap.size + 1) d
  z : Below w.heap.size w W
theorem Pd.on {w W W' : World} {n : Int} {A : Option Addr} {k c : Nat} {d : List UInt8} (h : Pd w W n A k c d) (hb : Below W.heap.size W W') : Pd w W' n A k c d := ⟨h.p.on hb, h.d.on hb, bcj h.z hb⟩
theorem Pd.under {w W W' : World} {n : Int} {A : Option Addr} {k c B : Nat} {d : List UInt8} (h : Pd w W n A k c d) (hb : Below B W W') (hB : w.heap.size + 1 < B) : Pd w W' n A k c d :=
  ⟨⟨h.p.arr.below hb (by omega)⟩, ⟨h.d.arr.below hb (by omega)⟩, h.z.trans (hb.mono (by omega))⟩
theorem GivesK.lies {N : Int} {L : List (List UInt8)} {K : Int} {w w' : World} {e : Ending} (h : GivesK N L K w e w') : ∃ A m c, e = .returned (.tuple #[pkv N A m c, .int .i64 K]) ∧ LiesD w' w'.heap.size A m c L ∧ Below w.heap.size w w' := by
  obtain ⟨A, m, c, rfl, ho, hb⟩ := h
  obtain ⟨A', c', e, hL⟩ := ho.form
  cases e
  exact ⟨A, m, c, rfl, hL, hb⟩
theorem pd_new (w : World) (n : Int) (A : Option Addr) (k c : Nat) {d : List UInt8} (hd : d.length = 16) (t t2 : TypeId) : Pd w ((w.alloc (.cells #[.int .i64 n, .slice A k c] t)).alloc (.cells (d.map bv).toArray t2)) n A k c d := by
  have h := dg_new (w.alloc (.cells #[.int .i64 n, .slice A k c] t)) hd t2
  rw [World.size_alloc] at h
  exact ⟨(pk_new w n A k c t).on (Wire.b1 _ _), h, bcj (Wire.b1 _ _) (Wire.b1 _ _)⟩

set_option maxRecDepth 100000 in
set_option maxHeartbeats 4000000 in
theorem law_peaks (pk : Pkg) (hs : ∀ W, TT W → Calls Tryd.prog 10 #[] W (GivesT true W)) (n : Int) (k c : Nat) (A : Option Addr) (l : List (List UInt8)) (d : List UInt8) (w : World) (hd : d.length = 16) (hl : LiesD w w.heap.size A k c l) (ht : TT w) :
    Calls Tryd.prog 9 #[pkv n A k c, dv d] w (GivesT true w) := by
  have Y := pd_new w n A k c hd 56 29
  have HSA := Lib.hid (fun W (h : Below w.heap.size w W) => hs W (ht.on h))
  have HC0 : Hid (∀ W, Pd w W n A k c d → W.cell? ⟨w.heap.size, 0, none⟩ = some (.int .i64 n)) := Lib.hid (fun W h => h.p.size)
  have HC1 : Hid (∀ W, Pd w W n A k c d → W.cell? ⟨w.heap.size, 1, none⟩ = some (.slice A k c)) := Lib.hid (fun W h => h.p.roots)
  unfold pkv dv
  by_cases hn : 40 < k
  · have z0 : (40 : Int) < (k : Int) := by omega
    clear hl ht hs hd
    go_enter Tryd.func9, Tryd.ntmps9
    go_wp2_with (first
      | (go_at_call 10; (with_reducible refine (HSA.out _ Y.z).mono ?_); rintro e w1 ⟨rfl, hb⟩; replace Y := Y.on hb; clear hb; have hc1 := HC1.out _ Y))
    go_ret
    exact ⟨rfl, Y.z⟩
  · have z0 : ¬ (40 : Int) < (k : Int) := by omega
    have HK : Hid (k ≤ 40) := Lib.hid (by omega)
    obtain ⟨N, L, K, ha1, ha2⟩ := add_both pk n k c A l d w hd hl ht
    obtain ⟨D, K2, hDl, ht1, ht2⟩ := top_both pk n k c A l w hl ht
    have HA1 := Lib.hid ha1
    have HA2 := Lib.hid ha2
    have HT1 := Lib.hid ht1
    have HT2 := Lib.hid ht2
    have HD := Lib.hid hd
    have HDL := Lib.hid hDl
    have HL := Lib.hid (fun W (h : Below w.heap.size w W) => (hl.below h).more h.size)
    have E1 := Lib.hid (fun W => eql_d D D hDl hDl W)
    have hbt : (D == D) = true := by simp
    rw [hbt] at E1
    clear hl ht hs hd hn ha1 ha2 ht1 ht2 hDl hbt
    go_enter Tryd.func9, Tryd.ntmps9
    go_wp2_with (first
      | (go_at_call 10; (with_reducible refine (HSA.out _ Y.z).mono ?_); rintro e w1 ⟨rfl, hb⟩; replace Y := Y.on hb; clear hb; have hc1 := HC1.out _ Y; have hlt := Lib.hid Y.d.lt)
      | ((with_reducible refine Hash.at_slot 24 rfl ?_); refine Hash.gen_world (Pq := fun W => Pd w W n A k c d ∧ OwnD W w1.heap.size (.slice (some ⟨w1.heap.size, 0, none⟩) 0 0) 0 [] ∧ w1.heap.size ≤ W.heap.size) (G := fun W => wpList _ _ _ _ _ W) ⟨Y.on (Wire.b1 _ _), ownD_lit0 w1 (Nat.le_refl _), (Wire.b1 _ _).size⟩ ?_; clear Y hc1; intro W2 Y2; obtain ⟨Y, ho2, hs2⟩ := Y2; have HO2 := Lib.hid ho2; have HS2 := Lib.hid hs2; clear ho2 hs2; have hc1 := HC1.out _ Y)
      | (at_builtin; refine append_ds rfl (.tmp 23) (.tmp 25) rfl w1.heap.size (.slice (some ⟨w1.heap.size, 0, none⟩) 0 0) 0 [] rfl HO2.out A k c rfl l (HL.out _ Y.z) (by rw [Nat.zero_add]; exact Nat.le_trans HK.out (by decide)) HS2.out ?_; intro v3 w3 ho3 hb3; rw [Nat.zero_add, List.nil_append] at ho3; obtain ⟨A3, c3, rfl, hL⟩ := ho3.form; have HL3 := Lib.hid hL; replace Y := Y.under hb3 hlt.out; clear hc1 hL ho3 hb3 HO2 HS2)
      | (refine load_k 28 rfl rfl _ rfl w.heap.size rfl Y.p ?_)
      | (refine load_d 29 rfl rfl _ rfl (w.heap.size + 1) 0 rfl d HD.out Y.d.range ?_)
      | (go_at_call 28; (with_reducible refine (HA1.out _ Y.z).mono ?_); rintro e w4 h4; obtain ⟨B4, q4, c4, rfl, hL, hb⟩ := h4.lies; have HL4 := Lib.hid hL; have b4 := Lib.hid hb; replace Y := Y.on hb; clear hL hb h4)
      | (refine store_k (.tmp 7) (.tmp 31) rfl rfl w4.heap.size rfl (n := N) (A := B4) (k := q4) (c := c4) rfl (pk_new w4 0 none 0 0 _).arr.there ?_; refine Hash.gen_world (Pq := fun W => Below w4.heap.size w4 W ∧ Pk W w4.heap.size N B4 q4 c4) (G := fun W => wpList _ _ _ _ _ W) (k_new w4 N B4 q4 c4 _) ?_; intro W5 h5; have b5 := Lib.hid h5.1; have HK5 := Lib.hid h5.2; replace Y := Y.on h5.1; clear h5; have hc0 := HC0.out _ Y)
      | (refine build_k2 (.tmp 35) (.tmp 36) rfl rfl (n := n) (A := A3) (k := k) (c := c3) rfl rfl ?_)
      | (refine load_d 38 rfl rfl _ rfl (w.heap.size + 1) 0 rfl d HD.out Y.d.range ?_)
      | (go_at_call 32; (with_reducible refine (HA2.out _ A3 c3 Y.z (HL3.out.on (bcj b4.out b5.out))).mono ?_); rintro e w6 h6; obtain ⟨B6, q6, c6, rfl, hL, hb⟩ := h6.lies; have HL6 := Lib.hid hL; have b6 := Lib.hid hb; replace Y := Y.on hb; clear hL hb h6 hc0)
      | (refine store_k (.tmp 9) (.tmp 40) rfl rfl w6.heap.size rfl (n := N) (A := B6) (k := q6) (c := c6) rfl (pk_new w6 0 none 0 0 _).arr.there ?_; refine Hash.gen_world (Pq := fun W => Below w6.heap.size w6 W ∧ Pk W w6.heap.size N B6 q6 c6) (G := fun W => wpList _ _ _ _ _ W) (k_new w6 N B6 q6 c6 _) ?_; intro W7 h7; have b7 := Lib.hid h7.1; have HK7 := Lib.hid h7.2; replace Y := Y.on h7.1; clear h7)
      | (refine load_k 43 rfl rfl _ rfl w.heap.size rfl Y.p ?_)
      | (go_at_call 29; (with_reducible refine (HT1.out _ Y.z).mono ?_); rintro e w8 ⟨rfl, hb⟩; have b8 := Lib.hid hb; replace Y := Y.on hb; clear hb)
      | (refine store_d (.tmp 11) (.tmp 45) rfl rfl w8.heap.size 0 rfl D rfl HDL.out (dg_zero w8 _).there ?_; refine Hash.gen_world (Pq := fun W => Below w8.heap.size w8 W ∧ Dg W w8.heap.size D) (G := fun W => wpList _ _ _ _ _ W) (d_new w8 HDL.out _) ?_; intro W9 h9; have b9 := Lib.hid h9.1; have HD9 := Lib.hid h9.2; replace Y := Y.on h9.1; clear h9; have hc0 := HC0.out _ Y)
      | (refine build_k2 (.tmp 49) (.tmp 50) rfl rfl (n := n) (A := A3) (k := k) (c := c3) rfl rfl ?_)
      | (go_at_call 33; (with_reducible refine (HT2.out _ A3 c3 Y.z (HL3.out.on (bcj (bcj (bcj b4.out b5.out) (bcj b6.out b7.out)) (bcj b8.out b9.out)))).mono ?_); rintro e w10 ⟨rfl, hb⟩; have b10 := Lib.hid hb; replace Y := Y.on hb; clear hb hc0)
      | (refine store_d (.tmp 13) (.tmp 53) rfl rfl w10.heap.size 0 rfl D rfl HDL.out (dg_zero w10 _).there ?_; refine Hash.gen_world (Pq := fun W => Below w10.heap.size w10 W ∧ Dg W w10.heap.size D) (G := fun W => wpList _ _ _ _ _ W) (d_new w10 HDL.out _) ?_; intro W11 h11; have b11 := Lib.hid h11.1; have HD11 := Lib.hid h11.2; replace Y := Y.on h11.1; clear h11; have b811 := Lib.hid (bcj (bcj b8.out b9.out) (bcj b10.out b11.out)))
      | (refine load_k 55 rfl rfl _ rfl w4.heap.size rfl (HK5.out.on (bcj (bcj b6.out b7.out) b811.out)) ?_)
      | (refine load_k 56 rfl rfl _ rfl w6.heap.size rfl (HK7.out.on b811.out) ?_)
      | (go_at_call 30; (with_reducible refine (refSamePeaks_any N N B4 B6 q4 c4 q6 c6 L L W11 (HL4.out.on (bcj b5.out (bcj (bcj b6.out b7.out) b811.out))) (HL6.out.on (bcj b7.out b811.out))).mono ?_); rintro e w12 ⟨he, hb⟩; rw [decide_eq_true rfl, show (N == N) = true by simp] at he; subst he; have b12 := Lib.hid hb; replace Y := Y.on hb; clear hb; have hc1 := HC1.out _ Y)
      | (go_at_call 15; (with_reducible refine (refSame_any l l k c3 k c A3 A w12 (HL3.out.on (bcj (bcj (bcj b4.out b5.out) (bcj b6.out b7.out)) (bcj b811.out b12.out))) (HL.out _ Y.z)).mono ?_); rintro e w13 ⟨he, hb⟩; rw [decide_eq_true rfl] at he; subst he; have b13 := Lib.hid hb; replace Y := Y.on hb; clear hb hc1; have e1 := E1.out)
      | (refine QTail.loadG (by rfl) 29 (.tmp 11) rfl w8.heap.size 0 rfl (D.map bv) _ (HD9.out.on (bcj (bcj b10.out b11.out) (bcj b12.out b13.out))).range und_d rfl (info_d HDL.out) ?_)
      | (refine QTail.loadG (by rfl) 29 (.tmp 13) rfl w10.heap.size 0 rfl (D.map bv) _ (HD11.out.on (bcj b12.out b13.out)).range und_d rfl (info_d HDL.out) ?_))
    go_ret
    exact ⟨by simp, Y.z⟩
end Mk
end Go.Proofs.YthpkeaafgabjiaaDoor

/- MerkleProofsAreAccepted walked. Conditions: what the package answers, that the examples hold, what came in, the tables are laid. -/
namespace Go.Proofs.YthpkeaafgabjiaaDoor
open Go.RowKit
namespace Mk
open Wire (bv sv Lies)
open Hash (Arr bcj)

theorem ver_true {l : List (List UInt8)} {k : Nat} {d : List UInt8} (hd : l[k]? = some d) (R : List UInt8) : verI (l.length : Int) (k : Int) d (prove HH l k) R = (root HH l == R) := by
  have hk : k < l.length := (List.getElem?_eq_some_iff.1 hd).1
  obtain ⟨t, q, h1, h2⟩ := prove_inputs HH _ l k d rfl hd
  unfold verI
  rw [if_pos (by omega), Int.toNat_natCast, Int.toNat_natCast, h1]
  show (HH.sh t == R) = _
  rw [h2]
theorem pre_true {l : List (List UInt8)} {m : Nat} (h1 : 1 ≤ m) (hm : m ≤ l.length) (R : List UInt8) : preI (m : Int) (l.length : Int) (root HH (l.take m)) R (sub HH l m true) = (root HH l == R) := by
  have h2 := sub_pair HH zero _ l m true (root HH (l.take m)) rfl h1 hm (fun _ => rfl)
  unfold preI
  rw [if_pos (by omega), Int.toNat_natCast, Int.toNat_natCast, h2]
  simp
/-- Two blocks of digests: the root, and another one. -/
structure Ra (w W : World) (g : Nat) (R : List UInt8) : Prop where
  d : Dg W g R
  z : Below w.heap.size w W
theorem Ra.on {w W W' : World} {g : Nat} {R : List UInt8} (h : Ra w W g R) (hb : Below W.heap.size W W') : Ra w W' g R := ⟨h.d.on hb, bcj h.z hb⟩
structure Rb (w W : World) (g : Nat) (R : List UInt8) (w5 : World) : Prop where
  a : Ra w W g R
  far : Below w5.heap.size w5 W
theorem Rb.on {w W W' w5 : World} {g : Nat} {R : List UInt8} (h : Rb w W g R w5) (hb : Below W.heap.size W W') : Rb w W' g R w5 := ⟨h.a.on hb, bcj h.far hb⟩

structure Rc (w W : World) (g : Nat) (R : List UInt8) (w5 : World) (g2 : Nat) (R2 : List UInt8) : Prop where
  b : Rb w W g R w5
  d : Dg W g2 R2
theorem Rc.on {w W W' w5 : World} {g g2 : Nat} {R R2 : List UInt8} (h : Rc w W g R w5 g2 R2) (hb : Below W.heap.size W W') : Rc w W' g R w5 g2 R2 := ⟨h.b.on hb, h.d.on hb⟩

set_option maxRecDepth 100000 in
set_option maxHeartbeats 4000000 in
theorem law_accept (pk : Pkg) (hs : ∀ W, TP W → Calls Tryd.prog 10 #[] W (GivesT true W)) (l : List (List UInt8)) (n c : Nat) (A : Option Addr) (i m : Nat) (hi8 : i < 256) (hm8 : m < 256) (w : World) (hl : LiesD w w.heap.size A n c l) (ht : TP w) :
    Calls Tryd.prog 5 #[.slice A n c, .int .u8 (i : Int), .int .u8 (m : Int)] w (GivesT true w) := by
  have HSA := Lib.hid (hs w ht)
  have Z := Below.refl w.heap.size w
  by_cases hn : n = 0 ∨ 70 < n
  · have hn2 : (n : Int) = 0 ∨ (¬ (n : Int) = 0 ∧ (70 : Int) < (n : Int)) := by omega
    clear hl ht hs hn
    rcases hn2 with h | ⟨h, h2⟩
    · obtain rfl : n = 0 := by omega
      go_enter Tryd.func5, Tryd.ntmps5
      go_wp2_with (first
        | (go_at_call 10; (with_reducible refine HSA.out.mono ?_); rintro e w1 ⟨rfl, hb⟩; replace Z := bcj Z hb; clear hb))
      go_ret
      exact ⟨rfl, Z⟩
    · have h3 : ((n : Int) == 0) = false := by simpa using h
      go_enter Tryd.func5, Tryd.ntmps5
      go_wp2_with (first
        | (go_at_call 10; (with_reducible refine HSA.out.mono ?_); rintro e w1 ⟨rfl, hb⟩; replace Z := bcj Z hb; clear hb))
      go_ret
      exact ⟨rfl, Z⟩
  · have hle := hl.lies.le
    have hmost : c ≤ 9223372036854775807 := by have := hl.lies.most; unfold maxLen at this; omega
    have z0 : ¬ (70 : Int) < (n : Int) := by omega
    have z1 : ¬ (n : Int) = 0 := by omega
    have z2 : ((n : Int) == 0) = false := by simpa using z1
    have hn2 : n ≤ 1000000 := Nat.le_trans (show n ≤ 70 by omega) (by decide)
    have hn1 : 0 < n := by omega
    obtain ⟨J, hJ⟩ : ∃ J, J = i % n := ⟨_, rfl⟩
    obtain ⟨H, hH⟩ : ∃ H, H = m % n := ⟨_, rfl⟩
    have hJn : J < n := by rw [hJ]; exact Nat.mod_lt _ hn1
    have hHn : H < n := by rw [hH]; exact Nat.mod_lt _ hn1
    have y1 : (i : Int) % (n : Int) = (J : Int) := by rw [hJ]; exact (Int.natCast_emod i n).symm
    have y2 : (m : Int) % (n : Int) = (H : Int) := by rw [hH]; exact (Int.natCast_emod m n).symm
    have y3 : Int.tmod (i : Int) (n : Int) = (J : Int) := by rw [hJ]; exact (Int.ofNat_tmod i n).symm
    have y4 : Int.tmod (m : Int) (n : Int) = (H : Int) := by rw [hH]; exact (Int.ofNat_tmod m n).symm
    have y5 : (1 : Int) + (H : Int) = ((H + 1 : Nat) : Int) := by omega
    have hln := hl.len
    obtain ⟨d, hd⟩ : ∃ d, l[J]? = some d := ⟨_, List.getElem?_eq_getElem (by omega)⟩
    obtain ⟨b, o, rfl, hbb, hrx⟩ := hl.row hd
    have hdl := hl.ok.at_ hd
    have HDL := Lib.hid hdl
    have HHn : Hid (H + 1 ≤ n) := Lib.hid hHn
    have HR1 : Hid (∀ W, Below w.heap.size w W → Calls Tryd.prog 16 #[.slice (some ⟨b, o, none⟩) n c] W (Hash.GivesA ((root HH l).map bv) W)) := Lib.hid (fun W h => pk.root n c _ l W hn2 ((hl.below h).more h.size) (ht.on h))
    have HP1 : Hid (∀ W, Below w.heap.size w W → Calls Tryd.prog 11 #[.slice (some ⟨b, o, none⟩) n c, .int .i64 (J : Int)] W (GivesP (prove HH l J) 0 W)) := Lib.hid (fun W h => pk.prove n c J _ l W hn2 ((hl.below h).more h.size) (ht.on h) hJn)
    have HQ1 : Hid (∀ W, Below w.heap.size w W → Calls Tryd.prog 13 #[.slice (some ⟨b, o, none⟩) n c, .int .i64 ((H : Int) + 1)] W (GivesP (sub HH l (H + 1) true) 0 W)) := Lib.hid (fun W h => pk.provePre n c (H + 1) _ l W hn2 ((hl.below h).more h.size) (ht.on h) (by omega) hHn)
    have hHl := hl.take (k := H + 1) hHn
    have HRT : Hid (∀ W, Below w.heap.size w W → Calls Tryd.prog 16 #[.slice (some ⟨b, o, none⟩) (H + 1) c] W (Hash.GivesA ((root HH (l.take (H + 1))).map bv) W)) := Lib.hid (fun W h => pk.root (H + 1) c _ _ W (Nat.le_trans hHn hn2) ((hHl.below h).more h.size) (ht.on h))
    have hRl := root_length l
    have hTl := root_length (l.take (H + 1))
    have hPl : (prove HH l J).length ≤ 1000000 := Nat.le_trans (prove_length HH _ l J rfl) (by rw [hln]; exact hn2)
    have hQl : (sub HH l (H + 1) true).length ≤ 1000000 := Nat.le_trans (sub_length HH _ l (H + 1) true rfl (by omega) (by rw [hln]; exact hHn)) (by rw [hln]; exact hn2)
    have HV : Hid (∀ (X : List UInt8) (q cc : Nat) (B : Option Addr) W, X.length = 16 → Below w.heap.size w W → LiesD W W.heap.size B q cc (prove HH l J) → Calls Tryd.prog 18 #[.agg (X.map bv).toArray, .int .i64 (n : Int), .int .i64 (J : Int), .agg (d.map bv).toArray, .slice B q cc] W (GivesT (root HH l == X) W)) := Lib.hid (fun X q cc B W hX h hL => by
      have h1 := pk.verify X d (n : Int) (J : Int) q cc B _ W hX hdl (by omega) (by rw [← hL.len]; exact hPl) hL (ht.on h)
      rwa [← hln, ver_true hd, hln] at h1)
    have HW : Hid (∀ (X : List UInt8) (q cc : Nat) (B : Option Addr) W, X.length = 16 → Below w.heap.size w W → LiesD W W.heap.size B q cc (sub HH l (H + 1) true) → Calls Tryd.prog 20 #[.agg ((root HH (l.take (H + 1))).map bv).toArray, .agg (X.map bv).toArray, .int .i64 ((H : Int) + 1), .int .i64 (n : Int), .slice B q cc] W (GivesT (root HH l == X) W)) := Lib.hid (fun X q cc B W hX h hL => by
      have h1 := pk.verifyPre (root HH (l.take (H + 1))) X ((H + 1 : Nat) : Int) (n : Int) q cc B _ W hTl hX (by omega) (by rw [← hL.len]; exact hQl) hL (ht.on h)
      rwa [← hln, pre_true (by omega) (by rw [hln]; exact hHn), hln] at h1)
    have HRX : Hid (∀ W, Below w.heap.size w W → W.rangeAt b (o + J * 16) (d.map bv)) := Lib.hid (fun W h j u hu => (h.cell (by show b < w.heap.size; exact hbb)).trans (hrx j u hu))
    generalize root HH (l.take (H + 1)) = T at *
    generalize root HH l = R at *
    generalize prove HH l J = PL at *
    generalize sub HH l (H + 1) true = QL at *
    have HRL := Lib.hid hRl
    have HTL := Lib.hid hTl
    have z6 : (0 : Int) ≤ (J : Int) := by omega
    have z7 : (J : Int) < (n : Int) := by omega
    have z8 : (H : Int) + 1 ≤ (c : Int) := by omega
    have z9 : H + 1 ≤ c := by omega
    have z10 : (0 : Int) ≤ (H : Int) + 1 := by omega
    clear hJ hH hn hl ht hs hln hd hrx hdl hHl hRl hTl hPl hQl
    go_enter Tryd.func5, Tryd.ntmps5
    go_wp2_with (first
      | (go_at_call 10; (with_reducible refine HSA.out.mono ?_); rintro e w1 ⟨rfl, hb⟩; replace Z := bcj Z hb; clear hb)
      | (go_at_call 16; (with_reducible refine (HR1.out _ Z).mono ?_); rintro e w2 ⟨rfl, hb⟩; replace Z := bcj Z hb; clear hb)
      | (refine store_d (.tmp 11) (.tmp 40) rfl rfl w2.heap.size 0 rfl R rfl HRL.out (dg_zero w2 _).there ?_; refine Hash.gen_world (Pq := fun W => Ra w W w2.heap.size R) (G := fun W => wpList _ _ _ _ _ W) ⟨(d_new w2 HRL.out _).2, bcj Z (d_new w2 HRL.out _).1⟩ ?_; clear Z; intro W3 Y)
      | (go_at_call 11; (with_reducible refine (HP1.out _ Y.z).mono ?_); rintro e w4 ⟨v4, n4, rfl, ho, hb⟩; obtain ⟨A4, c4, rfl, hL⟩ := ho.form; have HL4 := Lib.hid hL; replace Y := Y.on hb; clear hb ho hL)
      | (go_at_call 13; (with_reducible refine (HQ1.out _ Y.z).mono ?_); rintro e w5 ⟨v5, n5, rfl, ho, hb⟩; obtain ⟨A5, c5, rfl, hL⟩ := ho.form; have HL5 := Lib.hid hL; replace HL4 := Lib.hid (HL4.out.on hb); replace Y := Y.on hb; clear hb ho hL))
    generalize w2.heap.size = g at *
    have Y0 : Rb w w5 g R w5 := ⟨Y, Below.refl _ _⟩
    have HV1 : Hid (∀ W, Rb w W g R w5 → Calls Tryd.prog 18 #[.agg (R.map bv).toArray, .int .i64 (n : Int), .int .i64 (J : Int), .agg (d.map bv).toArray, .slice A4 n4 c4] W (GivesT true W)) := Lib.hid (fun W h => by
      have h1 := HV.out R n4 c4 A4 W HRL.out h.a.z ((HL4.out.below h.far).more h.far.size)
      rwa [show (R == R) = true by simp] at h1)
    have HRT1 : Hid (∀ W, Rb w W g R w5 → Calls Tryd.prog 16 #[.slice (some ⟨b, o, none⟩) (H + 1) c] W (Hash.GivesA (T.map bv) W)) := Lib.hid (fun W h => HRT.out W h.a.z)
    have HW1 : Hid (∀ W, Rb w W g R w5 → Calls Tryd.prog 20 #[.agg (T.map bv).toArray, .agg (R.map bv).toArray, .int .i64 ((H : Int) + 1), .int .i64 (n : Int), .slice A5 n5 c5] W (GivesT true W)) := Lib.hid (fun W h => by
      have h1 := HW.out R n5 c5 A5 W HRL.out h.a.z ((HL5.out.below h.far).more h.far.size)
      rwa [show (R == R) = true by simp] at h1)
    refine QTail.whole (fun W => Rb w W g R w5) (by kernel_rfl) (by kernel_rfl) (Y0.on (Hash.belowD _)) ?_
    refine QTail.loadC (by rfl) 29 (.tmp 11) rfl g 0 rfl (R.map bv) _ (fun W h => h.a.d.range) und_d rfl (info_d HRL.out) ?_
    (refine wpQuiet_step (fun K hK => ?_); go_simp; (first | refine hK _ ?_ | refine ⟨_, fun _ _ => rfl, hK _ ?_⟩); clear hK K)
    (refine wpQuiet_step (fun K hK => ?_); go_simp; (first | refine hK _ ?_ | refine ⟨_, fun _ _ => rfl, hK _ ?_⟩); clear hK K)
    (refine wpQuiet_step (fun K hK => ?_); go_simp; (first | refine hK _ ?_ | refine ⟨_, fun _ _ => rfl, hK _ ?_⟩); clear hK K)
    (refine wpQuiet_step (fun K hK => ?_); go_simp; (first | refine hK _ ?_ | refine ⟨_, fun _ _ => rfl, hK _ ?_⟩); clear hK K)
    (refine wpQuiet_step (fun K hK => ?_); go_simp; refine ⟨.pointer (some ⟨b, o + J * 16, none⟩), fun W hW => ?_, hK _ ?_⟩; (first | (rw [if_pos (by omega)]; exact ⟨rfl, rfl⟩) | (rw [if_pos (by omega)]; rfl) | exact ⟨rfl, rfl⟩ | rfl); clear hK K)
    refine QTail.loadC (by rfl) 29 (.tmp 58) rfl b (o + J * 16) rfl (d.map bv) _ (fun W h => HRX.out W h.a.z) und_d rfl (info_d HDL.out) ?_
    (refine wpQuiet_step (fun K hK => ?_); go_simp; (first | refine hK _ ?_ | refine ⟨_, fun _ _ => rfl, hK _ ?_⟩); clear hK K)
    (refine wpQuiet_step (fun K hK => ?_); go_simp; refine ⟨_, fun W hW => (HV1.out W hW).mono fun e w' ⟨he, hb⟩ => ⟨he, hW.on hb⟩, hK _ ?_⟩; clear hK K)
    (refine wpQuiet_step (fun K hK => ?_); go_simp; (first | refine hK _ ?_ | refine ⟨_, fun _ _ => rfl, hK _ ?_⟩); clear hK K)
    refine wpQuiet_nil ?_
    clear Y Y0
    intro w6 Y
    go_wp2
    refine QTail.whole (fun W => Rb w W g R w5) (by kernel_rfl) (by kernel_rfl) (Y.on (Hash.belowD _)) ?_
    (refine wpQuiet_step (fun K hK => ?_); go_simp; (first | refine hK _ ?_ | refine ⟨_, fun _ _ => rfl, hK _ ?_⟩); clear hK K)
    (refine wpQuiet_step (fun K hK => ?_); go_simp; (first | refine hK _ ?_ | refine ⟨_, fun _ _ => rfl, hK _ ?_⟩); clear hK K)
    (refine wpQuiet_step (fun K hK => ?_); go_simp; refine ⟨(.slice (some ⟨b, o, none⟩) (H + 1) c), fun W hW => ?_, hK _ ?_⟩; (first | exact ⟨rfl, rfl⟩ | rfl | (rw [if_pos (by omega)]; exact ⟨rfl, rfl⟩) | (rw [if_pos (by omega), if_neg (by omega)]; exact ⟨rfl, rfl⟩) | (rw [if_neg (by omega)]; exact ⟨rfl, rfl⟩)); clear hK K)
    (refine wpQuiet_step (fun K hK => ?_); go_simp; refine ⟨_, fun W hW => (HRT1.out W hW).mono fun e w' ⟨he, hb⟩ => ⟨he, hW.on hb⟩, hK _ ?_⟩; clear hK K)
    refine QTail.loadC (by rfl) 29 (.tmp 11) rfl g 0 rfl (R.map bv) _ (fun W h => h.a.d.range) und_d rfl (info_d HRL.out) ?_
    (refine wpQuiet_step (fun K hK => ?_); go_simp; (first | refine hK _ ?_ | refine ⟨_, fun _ _ => rfl, hK _ ?_⟩); clear hK K)
    (refine wpQuiet_step (fun K hK => ?_); go_simp; (first | refine hK _ ?_ | refine ⟨_, fun _ _ => rfl, hK _ ?_⟩); clear hK K)
    (refine wpQuiet_step (fun K hK => ?_); go_simp; (first | refine hK _ ?_ | refine ⟨_, fun _ _ => rfl, hK _ ?_⟩); clear hK K)
    (refine wpQuiet_step (fun K hK => ?_); go_simp; refine ⟨_, fun W hW => (HW1.out W hW).mono fun e w' ⟨he, hb⟩ => ⟨he, hW.on hb⟩, hK _ ?_⟩; clear hK K)
    (refine wpQuiet_step (fun K hK => ?_); go_simp; (first | refine hK _ ?_ | refine ⟨_, fun _ _ => rfl, hK _ ?_⟩); clear hK K)
    refine wpQuiet_nil ?_
    clear Y
    intro w7 Y
    obtain ⟨r0, rt, rfl⟩ : ∃ r0 rt, R = r0 :: rt := by
      cases R with
      | nil => exact absurd HRL.out (by decide)
      | cons r0 rt => exact ⟨r0, rt, rfl⟩
    go_wp2_with (first
      | (refine load_d 71 rfl rfl _ rfl g 0 rfl (r0 :: rt) HRL.out Y.a.d.range ?_)
      | (refine store_d (.tmp 18) (.tmp 71) rfl rfl w7.heap.size 0 rfl (r0 :: rt) rfl HRL.out (dg_zero w7 _).there ?_; refine Hash.gen_world (Pq := fun W => Rb w W g (r0 :: rt) w5 ∧ Dg W w7.heap.size (r0 :: rt)) (G := fun W => wpList _ _ _ _ _ W) ⟨Y.on (d_new w7 HRL.out _).1, (d_new w7 HRL.out _).2⟩ ?_; have hg := Lib.hid Y.a.d.lt; have hs7 := Lib.hid (And.intro Y.a.z.size Y.far.size); clear Y; intro W8 Y8; obtain ⟨Y, hd8⟩ := Y8; have HD8 := Lib.hid hd8; obtain ⟨-, f1⟩ := hd8.arr.some_ (i := 0) (by omega); have c0 : W8.cell? ⟨w7.heap.size, 0, none⟩ = some (.int .u8 (r0.toNat : Int)) := hd8.range 0 _ rfl; clear hd8))
    generalize w7.heap.size = g2 at *
    have e8 : (((r0.toNat : Int) + 1) % 256) = ((r0 + 1).toNat : Int) := by
      rw [UInt8.toNat_add]
      show _ = (((r0.toNat + 1) % 256 : Nat) : Int)
      omega
    rw [e8]
    have HR2L : Hid (((r0 + 1) :: rt).length = 16) := Lib.hid HRL.out
    have hne : ((r0 :: rt) == ((r0 + 1) :: rt)) = false := by
      refine beq_eq_false_iff_ne.2 (fun h => ?_)
      have h1 := congrArg UInt8.toNat (List.cons.inj h).1
      rw [UInt8.toNat_add] at h1
      have h2 : r0.toNat < 256 := r0.toNat_lt
      have h3 : r0.toNat = (r0.toNat + 1) % 256 := h1
      omega
    have Y1 : Rc w (W8.setCell ⟨g2, 0, none⟩ (.int .u8 ((r0 + 1).toNat : Int))) g (r0 :: rt) w5 g2 ((r0 + 1) :: rt) := by
      have h1 := hg.out
      have h2 := hs7.out
      exact ⟨⟨⟨⟨Y.a.d.arr.aside (k := g2) (ys := [bv (r0 + 1)]) (by omega) 0⟩, Y.a.z.setCell h2.1 _⟩, Y.far.setCell h2.2 _⟩, ⟨HD8.out.arr.set (i := 0) (by omega) (bv (r0 + 1))⟩⟩
    have HV2 : Hid (∀ W, Rc w W g (r0 :: rt) w5 g2 ((r0 + 1) :: rt) → Calls Tryd.prog 18 #[.agg (((r0 + 1) :: rt).map bv).toArray, .int .i64 (n : Int), .int .i64 (J : Int), .agg (d.map bv).toArray, .slice A4 n4 c4] W (GivesT false W)) := Lib.hid (fun W h => by
      have h1 := HV.out ((r0 + 1) :: rt) n4 c4 A4 W HR2L.out h.b.a.z ((HL4.out.below h.b.far).more h.b.far.size)
      rwa [hne] at h1)
    have HRT2 : Hid (∀ W, Rc w W g (r0 :: rt) w5 g2 ((r0 + 1) :: rt) → Calls Tryd.prog 16 #[.slice (some ⟨b, o, none⟩) (H + 1) c] W (Hash.GivesA (T.map bv) W)) := Lib.hid (fun W h => HRT.out W h.b.a.z)
    have HW2 : Hid (∀ W, Rc w W g (r0 :: rt) w5 g2 ((r0 + 1) :: rt) → Calls Tryd.prog 20 #[.agg (T.map bv).toArray, .agg (((r0 + 1) :: rt).map bv).toArray, .int .i64 ((H : Int) + 1), .int .i64 (n : Int), .slice A5 n5 c5] W (GivesT false W)) := Lib.hid (fun W h => by
      have h1 := HW.out ((r0 + 1) :: rt) n5 c5 A5 W HR2L.out h.b.a.z ((HL5.out.below h.b.far).more h.b.far.size)
      rwa [hne] at h1)
    clear Y c0 f1 e8 hne
    generalize (r0 + 1) :: rt = R2 at *
    refine QTail.whole (fun W => Rc w W g (r0 :: rt) w5 g2 R2) (by kernel_rfl) (by kernel_rfl) (Y1.on (Hash.belowD _)) ?_
    refine QTail.loadC (by rfl) 29 (.tmp 18) rfl g2 0 rfl (R2.map bv) _ (fun W h => h.d.range) und_d rfl (info_d HR2L.out) ?_
    (refine wpQuiet_step (fun K hK => ?_); go_simp; (first | refine hK _ ?_ | refine ⟨_, fun _ _ => rfl, hK _ ?_⟩); clear hK K)
    (refine wpQuiet_step (fun K hK => ?_); go_simp; (first | refine hK _ ?_ | refine ⟨_, fun _ _ => rfl, hK _ ?_⟩); clear hK K)
    (refine wpQuiet_step (fun K hK => ?_); go_simp; (first | refine hK _ ?_ | refine ⟨_, fun _ _ => rfl, hK _ ?_⟩); clear hK K)
    (refine wpQuiet_step (fun K hK => ?_); go_simp; (first | refine hK _ ?_ | refine ⟨_, fun _ _ => rfl, hK _ ?_⟩); clear hK K)
    (refine wpQuiet_step (fun K hK => ?_); go_simp; refine ⟨.pointer (some ⟨b, o + J * 16, none⟩), fun W hW => ?_, hK _ ?_⟩; (first | (rw [if_pos (by omega)]; exact ⟨rfl, rfl⟩) | (rw [if_pos (by omega)]; rfl) | exact ⟨rfl, rfl⟩ | rfl); clear hK K)
    refine QTail.loadC (by rfl) 29 (.tmp 81) rfl b (o + J * 16) rfl (d.map bv) _ (fun W h => HRX.out W h.b.a.z) und_d rfl (info_d HDL.out) ?_
    (refine wpQuiet_step (fun K hK => ?_); go_simp; (first | refine hK _ ?_ | refine ⟨_, fun _ _ => rfl, hK _ ?_⟩); clear hK K)
    (refine wpQuiet_step (fun K hK => ?_); go_simp; refine ⟨_, fun W hW => (HV2.out W hW).mono fun e w' ⟨he, hb⟩ => ⟨he, hW.on hb⟩, hK _ ?_⟩; clear hK K)
    (refine wpQuiet_step (fun K hK => ?_); go_simp; (first | refine hK _ ?_ | refine ⟨_, fun _ _ => rfl, hK _ ?_⟩); clear hK K)
    (refine wpQuiet_step (fun K hK => ?_); go_simp; (first | refine hK _ ?_ | refine ⟨_, fun _ _ => rfl, hK _ ?_⟩); clear hK K)
    (refine wpQuiet_step (fun K hK => ?_); go_simp; (first | refine hK _ ?_ | refine ⟨_, fun _ _ => rfl, hK _ ?_⟩); clear hK K)
    (refine wpQuiet_step (fun K hK => ?_); go_simp; refine ⟨(.slice (some ⟨b, o, none⟩) (H + 1) c), fun W hW => ?_, hK _ ?_⟩; (first | exact ⟨rfl, rfl⟩ | rfl | (rw [if_pos (by omega)]; exact ⟨rfl, rfl⟩) | (rw [if_pos (by omega), if_neg (by omega)]; exact ⟨rfl, rfl⟩) | (rw [if_neg (by omega)]; exact ⟨rfl, rfl⟩)); clear hK K)
    (refine wpQuiet_step (fun K hK => ?_); go_simp; refine ⟨_, fun W hW => (HRT2.out W hW).mono fun e w' ⟨he, hb⟩ => ⟨he, hW.on hb⟩, hK _ ?_⟩; clear hK K)
    refine QTail.loadC (by rfl) 29 (.tmp 18) rfl g2 0 rfl (R2.map bv) _ (fun W h => h.d.range) und_d rfl (info_d HR2L.out) ?_
    (refine wpQuiet_step (fun K hK => ?_); go_simp; (first | refine hK _ ?_ | refine ⟨_, fun _ _ => rfl, hK _ ?_⟩); clear hK K)
    (refine wpQuiet_step (fun K hK => ?_); go_simp; (first | refine hK _ ?_ | refine ⟨_, fun _ _ => rfl, hK _ ?_⟩); clear hK K)
    (refine wpQuiet_step (fun K hK => ?_); go_simp; (first | refine hK _ ?_ | refine ⟨_, fun _ _ => rfl, hK _ ?_⟩); clear hK K)
    (refine wpQuiet_step (fun K hK => ?_); go_simp; refine ⟨_, fun W hW => (HW2.out W hW).mono fun e w' ⟨he, hb⟩ => ⟨he, hW.on hb⟩, hK _ ?_⟩; clear hK K)
    (refine wpQuiet_step (fun K hK => ?_); go_simp; (first | refine hK _ ?_ | refine ⟨_, fun _ _ => rfl, hK _ ?_⟩); clear hK K)
    (refine wpQuiet_step (fun K hK => ?_); go_simp; (first | refine hK _ ?_ | refine ⟨_, fun _ _ => rfl, hK _ ?_⟩); clear hK K)
    refine wpQuiet_nil ?_
    clear Y1
    intro w9 Y
    go_wp2
    go_ret
    exact ⟨by simp, Y.b.a.z⟩
end Mk
end Go.Proofs.YthpkeaafgabjiaaDoor

