/- MerkleClashMatchesSpec walked. Conditions: what the package answers, that the examples hold, what came in, the tables are laid. -/
import Derived.Test.YthpkeaafgabjiaaDoorM16
import Derived.Test.YthpkeaafgabjiaaDoorM18
namespace Go.Proofs.YthpkeaafgabjiaaDoor
open Go.RowKit
namespace Mk
open Wire (bv sv Lies)
open Hash (Arr bcj)

theorem GivesC.lies {r : Option (List UInt8 × List UInt8)} {w w' : World} {e : Ending} (h : GivesC r w e w') : ∃ A n c B m k, e = .returned (.agg (cellsC (.slice A n c) (.slice B m k) r.isSome).toArray) ∧ Below w.heap.size w w' ∧
    Lies w' w'.heap.size 1 A n c (((r.map (·.1)).getD []).map bv) ∧ Lies w' w'.heap.size 1 B m k (((r.map (·.2)).getD []).map bv) := by
  obtain ⟨u, v, rfl, hb, h⟩ := h
  have hnil : Lies w' w'.heap.size 1 none 0 0 (([] : List UInt8).map bv) := ⟨rfl, Nat.le_refl _, Nat.zero_le _, fun h => absurd h (Nat.lt_irrefl 0), fun h => absurd h (Nat.lt_irrefl 0)⟩
  cases r with
  | none => obtain ⟨rfl, rfl⟩ := h; exact ⟨_, _, _, _, _, _, rfl, hb, hnil, hnil⟩
  | some p =>
    obtain ⟨x, y⟩ := p
    obtain ⟨h1, h2⟩ := h
    obtain ⟨g1, c1, rfl, _, l1⟩ := h1.lies
    obtain ⟨g2, c2, rfl, _, l2⟩ := h2.lies
    exact ⟨_, _, _, _, _, _, rfl, hb, l1, l2⟩
theorem verI_true {n i : Int} {d root : List UInt8} {p : List (List UInt8)} (h : verI n i d p root = true) : ∃ t l, inpI n i d p = some (t :: l) ∧ HH.sh t = root := by
  unfold verI at h
  unfold inpI
  split at h
  · rename_i h0
    rw [if_pos h0]
    unfold verd at h
    split at h
    · rename_i t l e
      exact ⟨t, l, e, by simpa using h⟩
    · cases h
  · cases h
theorem clash_found {n i : Int} {a b root : List UInt8} {p q : List (List UInt8)} (ha : a.length = 16) (hb : b.length = 16) (hp : Ok p) (hq : Ok q) (hn : clashOf (inpI n i a p) (inpI n i b q) = none) (h1 : verI n i a p root = true) (h2 : verI n i b q root = true) : a = b ∧ p = q := by
  obtain ⟨t, l, e1, s1⟩ := verI_true h1
  obtain ⟨s, m, e2, s2⟩ := verI_true h2
  have hlen := inpI_len e1 e2
  rw [e1, e2] at hn
  have hf : firstDiff (t :: l) (s :: m) = none := by
    have hn2 : (if HH.sh t = HH.sh s then firstDiff (t :: l) (s :: m) else none) = none := hn
    rwa [if_pos (s1.trans s2.symm)] at hn2
  have he := firstDiff_none _ _ hlen hf
  unfold inpI at e1 e2
  split at e1
  · rename_i h0
    rw [if_pos h0] at e2
    rw [← he] at e2
    obtain ⟨h3, h4⟩ := inputs_inj HH clear_HH _ _ _ _ _ _ _ ha hb (fun x hx => hp x (List.mem_reverse.1 hx)) (fun x hx => hq x (List.mem_reverse.1 hx)) e1 e2
    exact ⟨h3, List.reverse_inj.1 h4⟩
  · cases e1
theorem clash_sound {n i : Int} {a b : List UInt8} {p q : List (List UInt8)} (hp : Ok p) (hq : Ok q) {x y : List UInt8} (h : clashOf (inpI n i a p) (inpI n i b q) = some (x, y)) : x ≠ y ∧ HH.sh x = HH.sh y := by
  unfold clashOf at h
  split at h
  · rename_i t l s m e1 e2
    split at h
    · rename_i hs
      refine ⟨firstDiff_some _ _ _ _ h, ?_⟩
      unfold inpI at e1 e2
      split at e1
      · rename_i h0
        rw [if_pos h0] at e2
        exact firstDiff_sh HH clear_HH _ _ _ _ _ _ _ _ _ _ _ _ (fun x hx => hp x (List.mem_reverse.1 hx)) (fun x hx => hq x (List.mem_reverse.1 hx)) e1 e2 hs h
      · cases e1
    · cases h
  · cases h
/-- What came in, and a digest behind it. -/
structure Iw (w W : World) (old root : List UInt8) (n i : Int) (d : List UInt8) (A : Option Addr) (q c : Nat) (b : List UInt8) : Prop where
  a : Iv W w.heap.size old root n i d A q c
  b : Dg W (w.heap.size + 1) b
  z : Below w.heap.size w W
theorem Iw.on {w W W' : World} {old root d b : List UInt8} {n i : Int} {A : Option Addr} {q c : Nat} (h : Iw w W old root n i d A q c b) (hb : Below W.heap.size W W') : Iw w W' old root n i d A q c b := ⟨h.a.on hb, h.b.on hb, bcj h.z hb⟩
theorem iw_new (w : World) {old root d b : List UInt8} {n i : Int} {A : Option Addr} {q c : Nat} (ho : old.length = 16) (hr : root.length = 16) (hd : d.length = 16) (hb : b.length = 16) (t t2 : TypeId) : Iw w ((w.alloc (.cells (cellsI old root n i d A q c).toArray t)).alloc (.cells (b.map bv).toArray t2)) old root n i d A q c b := by
  have h := dg_new (w.alloc (.cells (cellsI old root n i d A q c).toArray t)) hb t2
  rw [World.size_alloc] at h
  exact ⟨(iv_new w ho hr hd t).on (Wire.b1 _ _), h, bcj (Wire.b1 _ _) (Wire.b1 _ _)⟩
/-- A result of the reference's Clash in a block of its own. -/
structure Co (W : World) (g : Nat) (u v : Value) (f : Bool) : Prop where
  arr : Arr W g 3 (cellsC u v f)
theorem c_new (W : World) {A B : Option Addr} {n c m k : Nat} {f : Bool} (t : TypeId) : Below W.heap.size W ((W.alloc (.cells #[.slice none 0 0, .slice none 0 0, .bool false] t)).setCells W.heap.size 0 (cellsC (.slice A n c) (.slice B m k) f)) ∧ Co ((W.alloc (.cells #[.slice none 0 0, .slice none 0 0, .bool false] t)).setCells W.heap.size 0 (cellsC (.slice A n c) (.slice B m k) f)) W.heap.size (.slice A n c) (.slice B m k) f :=
  ⟨(Wire.b1 _ _).trans (Hash.below_cells (Nat.le_refl _) _ _ _), ⟨(Hash.arr_new W #[.slice none 0 0, .slice none 0 0, .bool false] t).over (ys := cellsC (.slice A n c) (.slice B m k) f) rfl⟩⟩

set_option maxRecDepth 100000 in
set_option maxHeartbeats 4000000 in
theorem law_clash_many (hs : ∀ W, TT W → Calls Tryd.prog 10 #[] W (GivesT true W)) (old root d b : List UInt8) (n i : Int) (q c q2 c2 : Nat) (A A2 : Option Addr) (w : World) (ho : old.length = 16) (hr : root.length = 16) (hd : d.length = 16) (hb : b.length = 16)
    (ht : TT w) (hn : 70 < q ∨ 70 < q2) : Calls Tryd.prog 6 #[iv old root n i d A q c, dv b, .slice A2 q2 c2] w (GivesT true w) := by
  have Y := iw_new w (n := n) (i := i) (A := A) (q := q) (c := c) ho hr hd hb 33 29
  have HSA := Lib.hid (fun W (h : Below w.heap.size w W) => hs W (ht.on h))
  have HO := Lib.hid ho
  have HR := Lib.hid hr
  have HD := Lib.hid hd
  have HB := Lib.hid hb
  have HCN : Hid (∀ W, Iw w W old root n i d A q c b → W.cell? ⟨w.heap.size, 32, none⟩ = some (.int .i64 n)) := Lib.hid (fun W h => h.a.cN)
  have HCI : Hid (∀ W, Iw w W old root n i d A q c b → W.cell? ⟨w.heap.size, 33, none⟩ = some (.int .i64 i)) := Lib.hid (fun W h => h.a.cI)
  have HCP : Hid (∀ W, Iw w W old root n i d A q c b → W.cell? ⟨w.heap.size, 50, none⟩ = some (.slice A q c)) := Lib.hid (fun W h => h.a.cP)
  have hn2 : (70 : Int) < (q : Int) ∨ (¬ (70 : Int) < (q : Int) ∧ (70 : Int) < (q2 : Int)) := by omega
  unfold iv dv
  clear ht hs ho hr hd hb hn
  generalize (cellsI old root n i d A q c).toArray = ca at *
  rcases hn2 with z0 | ⟨z0, z1⟩
  all_goals
    go_enter Tryd.func6, Tryd.ntmps6
    go_wp2_with (first
      | (go_at_call 10; (with_reducible refine (HSA.out _ Y.z).mono ?_); rintro e w1 ⟨rfl, hb⟩; replace Y := Y.on hb; clear hb; have hcp := HCP.out _ Y))
    go_ret
    exact ⟨rfl, Y.z⟩

set_option maxRecDepth 100000 in
set_option maxHeartbeats 16000000 in
theorem law_clash_none (pk : Pkg) (hs : ∀ W, TT W → Calls Tryd.prog 10 #[] W (GivesT true W)) (old root d b : List UInt8) (n i : Int) (q c q2 c2 : Nat) (A A2 : Option Addr) (p p2 : List (List UInt8)) (w : World) (ho : old.length = 16) (hr : root.length = 16) (hd : d.length = 16) (hb : b.length = 16) (hnn : n ≤ 9223372036854775807)
    (hl : LiesD w w.heap.size A q c p) (hl2 : LiesD w w.heap.size A2 q2 c2 p2) (ht : TT w) (hn : ¬ (70 < q ∨ 70 < q2)) (hcl : clashOf (inpI n i d p) (inpI n i b p2) = none) : Calls Tryd.prog 6 #[iv old root n i d A q c, dv b, .slice A2 q2 c2] w (GivesT true w) := by
  have Y := iw_new w (n := n) (i := i) (A := A) (q := q) (c := c) ho hr hd hb 33 29
  have HSA := Lib.hid (fun W (h : Below w.heap.size w W) => hs W (ht.on h))
  have HO := Lib.hid ho
  have HR := Lib.hid hr
  have HD := Lib.hid hd
  have HB := Lib.hid hb
  have HCN : Hid (∀ W, Iw w W old root n i d A q c b → W.cell? ⟨w.heap.size, 32, none⟩ = some (.int .i64 n)) := Lib.hid (fun W h => h.a.cN)
  have HCI : Hid (∀ W, Iw w W old root n i d A q c b → W.cell? ⟨w.heap.size, 33, none⟩ = some (.int .i64 i)) := Lib.hid (fun W h => h.a.cI)
  have HCP : Hid (∀ W, Iw w W old root n i d A q c b → W.cell? ⟨w.heap.size, 50, none⟩ = some (.slice A q c)) := Lib.hid (fun W h => h.a.cP)
  have z0 : ¬ (70 : Int) < (q : Int) := by omega
  have z1 : ¬ (70 : Int) < (q2 : Int) := by omega
  have hq1 : q ≤ 1000000 := Nat.le_trans (show q ≤ 70 by omega) (by decide)
  have hq2 : q2 ≤ 1000000 := Nat.le_trans (show q2 ≤ 70 by omega) (by decide)
  have HTT := Lib.hid ht
  have hF := fun h1 h2 => clash_found (root := root) hd hb hl.ok hl2.ok hcl h1 h2
  have HC1 := Lib.hid (fun W (h : Below w.heap.size w W) => pk.clash n i d b q c q2 c2 A A2 p p2 W hd hb hnn hq1 hq2 ((hl.below h).more h.size) ((hl2.below h).more h.size) (ht.on h).p)
  have HC2 := Lib.hid (fun W (h : Below w.heap.size w W) => refClashI n i d b q c q2 c2 A A2 p p2 W hd hb hnn hq1 hq2 ((hl.below h).more h.size) ((hl2.below h).more h.size) (ht.on h))
  rw [hcl] at HC1 HC2
  have HV1 := Lib.hid (fun W (h : Below w.heap.size w W) => pk.verify root d n i q c A p W hr hd hnn hq1 ((hl.below h).more h.size) (ht.on h).p)
  have HV2 := Lib.hid (fun W (h : Below w.heap.size w W) => pk.verify root b n i q2 c2 A2 p2 W hr hb hnn hq2 ((hl2.below h).more h.size) (ht.on h).p)
  have HSM := Lib.hid (fun W (h : Below w.heap.size w W) => refSame_any p p2 q c q2 c2 A A2 W ((hl.below h).more h.size) ((hl2.below h).more h.size))
  have E1 := Lib.hid (fun W => eql_d d b hd hb W)
  have hDS : (d == b) = true → True := fun _ => trivial
  have hF2 : verI n i d p root = true → verI n i b p2 root = true → (d == b) = true ∧ decide (p = p2) = true := fun h1 h2 => by
    obtain ⟨h3, h4⟩ := hF h1 h2
    exact ⟨by simpa using h3, decide_eq_true h4⟩
  generalize verI n i d p root = B1 at *
  generalize verI n i b p2 root = B2 at *
  generalize (d == b) = D at *
  generalize decide (p = p2) = S at *
  unfold iv dv
  have HF2 := Lib.hid hF2
  clear hl hl2 ht hs ho hr hd hb hn hcl hDS hq1 hq2 hnn hF hF2
  generalize (cellsI old root n i d A q c).toArray = ca at *
  go_enter Tryd.func6, Tryd.ntmps6
  go_wp2_with (first
      | (go_at_call 10; (with_reducible refine (HSA.out _ Y.z).mono ?_); rintro e w1 ⟨rfl, hb⟩; replace Y := Y.on hb; clear hb; have hcp := HCP.out _ Y; have hci := HCI.out _ Y; have hcn := HCN.out _ Y)
      | (refine load_d 32 rfl rfl _ rfl w.heap.size 34 rfl d HD.out Y.a.rLeaf ?_)
      | (refine load_d 33 rfl rfl _ rfl (w.heap.size + 1) 0 rfl b HB.out Y.b.range ?_)
      | (go_at_call 22; (with_reducible refine (HC1.out _ Y.z).mono ?_); rintro e w2 ⟨A3, n3, c3, B3, m3, k3, rfl, hb, hx, hy⟩; have HX3 : Hid (Lies w2 w2.heap.size 1 A3 n3 c3 ((([] : List UInt8)).map bv)) := Lib.hid hx; have HY3 : Hid (Lies w2 w2.heap.size 1 B3 m3 k3 ((([] : List UInt8)).map bv)) := Lib.hid hy; replace Y := Y.on hb; clear hb hx hy hcp hci hcn; have hcp := HCP.out _ Y; have hci := HCI.out _ Y; have hcn := HCN.out _ Y)
      | (refine load_d 46 rfl rfl _ rfl w.heap.size 34 rfl d HD.out Y.a.rLeaf ?_)
      | (refine load_d 47 rfl rfl _ rfl (w.heap.size + 1) 0 rfl b HB.out Y.b.range ?_)
      | (go_at_call 23; (with_reducible refine (HC2.out _ Y.z).mono ?_); rintro e w4 h4; obtain ⟨A4, n4, c4, B4, m4, k4, rfl, hb, hx, hy⟩ := h4.lies; have HX4 : Hid (Lies w4 w4.heap.size 1 A4 n4 c4 ((([] : List UInt8)).map bv)) := Lib.hid hx; have HY4 : Hid (Lies w4 w4.heap.size 1 B4 m4 k4 ((([] : List UInt8)).map bv)) := Lib.hid hy; have hbb := Lib.hid hb; replace Y := Y.on hb; clear hb hx hy hcp hci hcn h4)
      | (refine store_c (.tmp 11) (.tmp 51) rfl rfl w4.heap.size rfl (A := A4) (B := B4) (n := n4) (m := m4) (c := c4) (d := k4) (b := false) rfl (Hash.arr_new w4 #[.slice none 0 0, .slice none 0 0, .bool false] _).there ?_; refine Hash.gen_world (Pq := fun W => Below w4.heap.size w4 W ∧ Co W w4.heap.size (.slice A4 n4 c4) (.slice B4 m4 k4) false) (G := fun W => wpList _ _ _ _ _ W) (c_new w4 _) ?_; intro W5 h5; replace Y := Y.on h5.1; have HX5 := Lib.hid (Hash.lies_on HX3.out (bcj hbb.out h5.1)); have HY5 := Lib.hid (Hash.lies_on HY3.out (bcj hbb.out h5.1)); have hv1 := Hash.convL HX5.out; have hv2 := Hash.convL HY5.out; have hv3 := Hash.convL (Hash.lies_on HX4.out h5.1); have hv4 := Hash.convL (Hash.lies_on HY4.out h5.1); have hk0 : W5.cell? ⟨w4.heap.size, 0, none⟩ = some (.slice A4 n4 c4) := h5.2.arr.range 0 _ rfl; have hk1 : W5.cell? ⟨w4.heap.size, 1, none⟩ = some (.slice B4 m4 k4) := h5.2.arr.range 1 _ rfl; have hk2 : W5.cell? ⟨w4.heap.size, 2, none⟩ = some (.bool false) := h5.2.arr.range 2 _ rfl; clear h5 HX3 HY3 HX4 HY4; have hcp := HCP.out _ Y; have hci := HCI.out _ Y; have hcn := HCN.out _ Y)
      | (refine load_d 73 rfl rfl _ rfl w.heap.size 16 rfl root HR.out Y.a.rRoot ?_)
      | (refine load_d 79 rfl rfl _ rfl w.heap.size 34 rfl d HD.out Y.a.rLeaf ?_)
      | (go_at_call 18; (with_reducible refine (HV1.out _ Y.z).mono ?_); rintro e w6 ⟨rfl, hb⟩; replace Y := Y.on hb; replace HX5 := Lib.hid (Hash.lies_on HX5.out hb); replace HY5 := Lib.hid (Hash.lies_on HY5.out hb); clear hb hcp hci hcn hv1 hv2 hv3 hv4 hk0 hk1 hk2; have hcp := HCP.out _ Y; have hci := HCI.out _ Y; have hcn := HCN.out _ Y)
      | (refine load_d 84 rfl rfl _ rfl w.heap.size 16 rfl root HR.out Y.a.rRoot ?_)
      | (refine load_d 89 rfl rfl _ rfl (w.heap.size + 1) 0 rfl b HB.out Y.b.range ?_)
      | (go_at_call 18; (with_reducible refine (HV2.out _ Y.z).mono ?_); rintro e w7 ⟨rfl, hb⟩; replace Y := Y.on hb; replace HX5 := Lib.hid (Hash.lies_on HX5.out hb); replace HY5 := Lib.hid (Hash.lies_on HY5.out hb); clear hb hcp hci hcn; have hcp := HCP.out _ Y; have e1 := E1.out)
      | ((with_reducible refine Hash.at_slot 92 rfl ?_); skip; (cases D <;> cases S <;> cases B1 <;> cases B2 <;> first | (exfalso; have hbad := HF2.out rfl rfl; simp at hbad; done) | (go_wp2_with (first  | (refine load_d 93 rfl rfl _ rfl w.heap.size 34 rfl d HD.out Y.a.rLeaf ?_; unfold dv)  | (refine load_d 94 rfl rfl _ rfl (w.heap.size + 1) 0 rfl b HB.out Y.b.range ?_; unfold dv)  | (go_at_call 15; (with_reducible refine (HSM.out _ Y.z).mono ?_); rintro e w8 ⟨rfl, hb⟩; replace Y := Y.on hb; replace HX5 := Lib.hid (Hash.lies_on HX5.out hb); replace HY5 := Lib.hid (Hash.lies_on HY5.out hb); clear hb hcp)); go_ret; exact ⟨by simp, Y.z⟩))))
end Mk
end Go.Proofs.YthpkeaafgabjiaaDoor
