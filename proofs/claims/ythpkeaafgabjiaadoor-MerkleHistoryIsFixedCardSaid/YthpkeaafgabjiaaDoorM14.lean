/- MPks; MSmp: what each of these parts proves stands ahead of it. -/
import Derived.Test.YthpkeaafgabjiaaDoorM13
/- The reference of package merkle: Peaks. Conditions: the slice reads as a list of digests, of at most 1000000, the tables are laid. -/
namespace Go.Proofs.YthpkeaafgabjiaaDoor
open Go.RowKit
namespace Mk
open Wire (bv sv Lies)
open Hash (Arr bcj)

/-- Peaks of one's own. -/
def GivesPk (n : Int) (l : List (List UInt8)) (w : World) (e : Ending) (w' : World) : Prop :=
  ∃ A m c, e = .returned (pkv n A m c) ∧ OwnD w' w.heap.size (.slice A m c) m l ∧ Below w.heap.size w w'
/-- Room for what goes out, the peaks that are made, and their roots. -/
structure Pz (w W : World) (n : Int) (B : Option Addr) (q e : Nat) (L : List (List UInt8)) : Prop where
  r : ∃ zs, Arr W w.heap.size 2 zs
  p : Pk W (w.heap.size + 1) n B q e
  own : OwnD W (w.heap.size + 2) (.slice B q e) q L
  z : Below w.heap.size w W
/-- The same where the roots have grown, and the peaks not yet. -/
structure Py (w W : World) (n : Int) (B : Option Addr) (q e : Nat) (L : List (List UInt8)) : Prop where
  r : ∃ zs, Arr W w.heap.size 2 zs
  o : ∃ A' q' e', Pk W (w.heap.size + 1) n A' q' e'
  own : OwnD W (w.heap.size + 2) (.slice B q e) q L
  z : Below w.heap.size w W
section
variable {w W W' : World} {n : Int} {B B' : Option Addr} {q e q' e' : Nat} {L L' : List (List UInt8)}
theorem Pz.on (h : Pz w W n B q e L) (hb : Below W.heap.size W W') : Pz w W' n B q e L := by
  obtain ⟨zs, hz⟩ := h.r
  exact ⟨⟨zs, hz.below hb (hz.size (by omega))⟩, h.p.on hb, h.own.on hb, bcj h.z hb⟩
theorem Pz.room (h : Pz w W n B q e L) : w.heap.size + 2 ≤ W.heap.size := h.p.lt
theorem Pz.step (h : Pz w W n B q e L) (hb : Below (w.heap.size + 2) W W') (ho : OwnD W' (w.heap.size + 2) (.slice B' q' e') q' L') : Py w W' n B' q' e' L' := by
  obtain ⟨zs, hz⟩ := h.r
  exact ⟨⟨zs, hz.below hb (by omega)⟩, ⟨_, _, _, ⟨h.p.arr.below hb (by omega)⟩⟩, ho, h.z.trans (hb.mono (by omega))⟩
theorem Py.some_ (h : Py w W n B q e L) {i : Nat} (hi : i < 2) : (∃ u, W.cell? ⟨w.heap.size + 1, i, none⟩ = some u) ∧ W.frozen? ⟨w.heap.size + 1, i, none⟩ = false := by
  obtain ⟨_, _, _, hp⟩ := h.o
  exact hp.arr.some_ hi
theorem Py.set (h : Py w W n B q e L) : Pz w (W.setCell ⟨w.heap.size + 1, 1, none⟩ (.slice B q e)) n B q e L := by
  obtain ⟨_, _, _, hp⟩ := h.o
  obtain ⟨zs, hz⟩ := h.r
  exact ⟨⟨zs, hz.aside (k := w.heap.size + 1) (ys := [.slice B q e]) (by omega) 1⟩, ⟨hp.arr.set (i := 1) (by omega) (.slice B q e)⟩, h.own.cells (g := w.heap.size + 1) (by omega) [.slice B q e] 1, h.z.setCell (by simp) _⟩
theorem pz_new (w : World) (n : Int) (t t2 : TypeId) : Pz w (((w.alloc (.cells #[.int .i64 0, .slice none 0 0] t)).alloc (.cells #[.int .i64 0, .slice none 0 0] t2)).setCells (w.heap.size + 1) 0 [.int .i64 n, .slice none 0 0]) n none 0 0 [] := by
  have h1 := Hash.arr_new w #[.int .i64 0, .slice none 0 0] t
  have h2 := Hash.arr_new (w.alloc (.cells #[.int .i64 0, .slice none 0 0] t)) #[.int .i64 0, .slice none 0 0] t2
  rw [World.size_alloc] at h2
  have h3 := h1.below (Wire.b1 _ (.cells #[.int .i64 0, .slice none 0 0] t2)) (h1.size (by decide))
  exact ⟨⟨_, h3.aside (by omega) 0⟩, ⟨h2.over (ys := [.int .i64 n, .slice none 0 0]) rfl⟩, ownD_nil _ _, (bcj (Wire.b1 _ _) (Wire.b1 _ _)).trans (Hash.below_cells (B := w.heap.size) (by omega) _ _ _)⟩
theorem Pz.fin (h : Pz w W n B q e L) : (loadVar 56 ⟨w.heap.size, 0, none⟩).run Tryd.prog (W.setCells w.heap.size 0 [.int .i64 n, .slice B q e]) = .ok (pkv n B q e) (W.setCells w.heap.size 0 [.int .i64 n, .slice B q e]) ∧ Below w.heap.size w (W.setCells w.heap.size 0 [.int .i64 n, .slice B q e]) := by
  obtain ⟨_, h1, h2⟩ := und_k
  obtain ⟨zs, hz⟩ := h.r
  exact Hash.arr_end (w := w) (wr := W) (g := w.heap.size) (xs := [.int .i64 n, .slice B q e]) 56 h.z (Nat.le_refl _) hz.there h1 h2 (info_k n B q e)
end
theorem gp_is {n k j : Nat} (hk : k = 2 ^ j) (h1 : k ≤ n) (h2 : n < 2 * k) : gp n = k := by rw [hk]; exact gp_eq (by omega) (by omega)
theorem half_pow {k j n : Nat} (hk : k = 2 ^ j) (h : n < k) : (k / 2 = 0 ∧ n = 0) ∨ ∃ i, k / 2 = 2 ^ i ∧ n < 2 * (k / 2) := by
  cases j with
  | zero => left; subst hk; simp at h ⊢; omega
  | succ j => right; refine ⟨j, ?_, ?_⟩ <;> rw [Nat.pow_succ] at hk <;> omega

set_option maxRecDepth 100000 in
set_option maxHeartbeats 4000000 in
theorem refPeaks_any (n c : Nat) (A : Option Addr) (l : List (List UInt8)) (hn : n ≤ 1000000) (w : World) (hl : LiesD w w.heap.size A n c l) (ht : TT w) :
    Calls Tryd.prog 31 #[.slice A n c] w (GivesPk (n : Int) (pk HH l) w) := by
  have Y := pz_new w (n : Int) 56 56
  have hln := hl.len
  have hmost : c ≤ 9223372036854775807 := by have := hl.lies.most; unfold maxLen at this; omega
  have hle := hl.lies.le
  have HTT := Lib.hid ht
  have HLN := Lib.hid hln
  have HL := Lib.hid hl
  have HPL : Hid ((pk HH l).length ≤ 1000000) := Lib.hid (by rw [pk_length HH _ l rfl, hln]; exact Nat.le_trans (ones_le n) hn)
  have HN := Lib.hid hn
  have HS : Hid (∀ A : Obj, (w.alloc A).heap.size = w.heap.size + 1) := Lib.hid (fun A => by rw [World.size_alloc])
  have HT0 : Hid (((w.alloc (.cells #[.int .i64 0, .slice none 0 0] 56)).alloc (.cells #[.int .i64 0, .slice none 0 0] 56)).there (w.heap.size + 1) 0 2) := Lib.hid (by
    have h2 := Hash.arr_new (w.alloc (.cells #[.int .i64 0, .slice none 0 0] 56)) #[.int .i64 0, .slice none 0 0] 56
    rw [World.size_alloc] at h2
    exact h2.there)
  clear hl ht hln hn
  go_enter Tryd.func31, Tryd.ntmps31
  go_wp2_with (first
    | (refine build_k (.tmp 7) rfl rfl (n := (n : Int)) rfl ?_)
    | (refine store_k (.tmp 3) (.tmp 8) rfl rfl (w.heap.size + 1) rfl (n := (n : Int)) (A := none) (k := 0) (c := 0) rfl HT0.out ?_; refine Hash.gen_world (Pq := fun W => Pz w W (n : Int) none 0 0 []) (G := fun W => wpList _ _ _ _ _ W) Y ?_; clear Y; intro W2 Y))
  go_loopw [4, 5] (fun av kv wr => ∃ (at_ k : Nat) (B : Option Addr) (q e : Nat) (L : List (List UInt8)), av = .int .i64 (at_ : Int) ∧ kv = .int .i64 (k : Int) ∧ k ≤ 1048576 ∧ Hid (at_ ≤ n ∧ ((k = 0 ∧ n - at_ = 0) ∨ ∃ j, k = 2 ^ j ∧ n - at_ < 2 * k)) ∧ Hid (L ++ pk HH (l.drop at_) = pk HH l) ∧ Pz w wr (n : Int) B q e L) (fun _ kv _ => (intOf kv).toNat)
  case atStart => exact ⟨0, 1048576, none, 0, 0, [], rfl, rfl, Nat.le_refl _, Lib.hid ⟨Nat.zero_le _, .inr ⟨20, rfl, by have := HN.out; omega⟩⟩, Lib.hid rfl, Y⟩
  case round =>
    clear Y
    obtain ⟨at_, k, B, q, e, L, rfl, rfl, hk, HAT, HPK, Y⟩ := hrel
    by_cases h0 : k = 0
    · subst h0
      have HR : Hid (L = pk HH l) := Lib.hid (by
        have h1 := HAT.out
        have h2 := HLN.out
        have h3 := HPK.out
        rw [List.drop_eq_nil_of_le (by omega), pk_nil, List.append_nil] at h3
        exact h3)
      clear HPK
      have hth : wr.there w.heap.size 0 2 := by obtain ⟨zs, hz⟩ := Y.r; exact hz.there
      go_wp2_with (first
        | (refine load_k 34 rfl rfl _ rfl (w.heap.size + 1) rfl Y.p ?_)
        | (refine store_k (.tmp 2) (.tmp 34) rfl rfl w.heap.size rfl (n := (n : Int)) (A := B) (k := q) (c := e) rfl hth ?_))
      have HE := Y.fin
      obtain rfl := HR.out
      refine bodyPost_ret (v := pkv (n : Int) B q e) ?_ rfl ⟨_, _, _, rfl, (Y.own.cells (by omega) _ 0).more (by omega), HE.2⟩
      simp [results, Tryd.results31, asAddr]
      rw [HE.1]
    · obtain ⟨hat, hor⟩ := HAT.out
      obtain ⟨j, hkj, hlt⟩ : ∃ j, k = 2 ^ j ∧ n - at_ < 2 * k := by
        rcases hor with h | h
        · exact absurd h.1 h0
        · exact h
      have z0 : (0 : Int) < (k : Int) := by omega
      have z2 : wrap64 ((n : Int) - (at_ : Int)) = (n : Int) - (at_ : Int) := by simp only [wrap64]; omega
      have z8 : k / 2 ≤ 1048576 := by omega
      by_cases hge : k ≤ n - at_
      · have z1 : (k : Int) ≤ (n : Int) - (at_ : Int) := by omega
        obtain ⟨d0, hd0⟩ : ∃ d, l[0]? = some d := ⟨_, List.getElem?_eq_getElem (by have := HLN.out; omega)⟩
        obtain ⟨b, o, rfl, -, -⟩ := HL.out.row hd0
        have hA := (HL.out.drop hat).take (k := k) hge
        have HRB : Hid (∀ W, Below w.heap.size w W → Calls Tryd.prog 17 #[.slice (some ⟨b, o + at_ * 16, none⟩) k (c - at_)] W (GivesD (root HH ((l.drop at_).take k)) W)) := Lib.hid (fun W h => refRoot_any k _ (c - at_) _ W ((hA.below h).more h.size) (HTT.out.on h))
        have HDL := Lib.hid (root_length ((l.drop at_).take k))
        have hdl : (l.drop at_).length = n - at_ := by rw [List.length_drop, HLN.out]
        have hg : gp (l.drop at_).length = k := by rw [hdl]; exact gp_is hkj hge hlt
        have hpk := pk_cons HH (l := l.drop at_) (by omega)
        rw [hg, List.drop_drop] at hpk
        have HPK2 : Hid ((L ++ [root HH ((l.drop at_).take k)]) ++ pk HH (l.drop (at_ + k)) = pk HH l) := Lib.hid (by
          rw [← HPK.out, hpk, List.append_assoc]; rfl)
        have HQL : Hid (q ≤ 1099511627776) := Lib.hid (by
          have h1 := HPL.out
          have h2 := Y.own.len
          rw [← HPK.out, List.length_append, h2] at h1
          exact Nat.le_trans (Nat.le_trans (Nat.le_add_right _ _) h1) (by decide))
        have HAT2 : Hid (at_ + k ≤ n ∧ ((k / 2 = 0 ∧ n - (at_ + k) = 0) ∨ ∃ j, k / 2 = 2 ^ j ∧ n - (at_ + k) < 2 * (k / 2))) := Lib.hid ⟨by omega, half_pow hkj (by omega)⟩
        generalize root HH ((l.drop at_).take k) = D at *
        obtain ⟨s, hs⟩ : ∃ s, s = at_ + k := ⟨_, rfl⟩
        rw [← hs] at HPK2 HAT2
        have Z9 : Hid ((at_ : Int) + (k : Int) = (s : Int)) := Lib.hid (by omega)
        have Z10 : Hid (wrap64 (s : Int) = (s : Int)) := Lib.hid (by have := HN.out; simp only [wrap64]; omega)
        have Z11 : Hid (IntKind.i64.wrap (s : Int) = (s : Int)) := Lib.hid (IntWalk.i64_in _ (by have := HN.out; omega))
        have Z12 : Hid (s ≤ c ∧ at_ ≤ s ∧ s - at_ = k ∧ ¬ c = at_ ∧ 0 < k) := Lib.hid ⟨by omega, by omega, by omega, by omega, by omega⟩
        have Z8 := Lib.hid z8
        clear hge hat z8 h0 hle hmost
        clear hs
        clear hA hdl hg hpk hd0 HPK HAT hor hkj hlt
        go_wp2
        clear z1 z2
        have z9 := Z9.out
        have z11 := Z11.out
        replace Y := Y.on (Hash.belowD _)
        have hq := Y.p.roots
        refine wp_region_any (by kernel_rfl) ?_
        change wpAny _ _ _ _ _ _ _ (World.drew wr)
        (refine wpAny_take (i := 0) (v := ?_) rfl (by kernel_rfl) (by kernel_rfl) (by kernel_rfl) (fun _ _ _ h => h) (Or.inl ⟨by rfl, ?_⟩) ?_; rotate_left 1; focus (intro W; go_simp; try (first | with_reducible rfl | (rw [if_pos (by omega)]; done) | (rw [if_pos (by omega), if_neg (by omega)]; done) | (rw [if_neg (by omega)]; done))))
        (refine wpAny_take (i := 2) (v := ?_) rfl (by kernel_rfl) (by kernel_rfl) (by kernel_rfl) (fun _ _ _ h => h) (Or.inl ⟨by rfl, ?_⟩) ?_; rotate_left 1; focus (intro W; go_simp; try (first | with_reducible rfl | (rw [if_pos (by omega)]; done) | (rw [if_pos (by omega), if_neg (by omega)]; done) | (rw [if_neg (by omega)]; done))))
        (refine wpAny_take (i := 3) (v := ?_) rfl (by kernel_rfl) (by kernel_rfl) (by kernel_rfl) (fun _ _ _ h => h) (Or.inl ⟨by rfl, ?_⟩) ?_; rotate_left 1; focus (intro W; go_simp; try (first | with_reducible rfl | (rw [if_pos (by omega)]; done) | (rw [if_pos (by omega), if_neg (by omega)]; done) | (rw [if_neg (by omega)]; done))))
        (refine wpAny_take (i := 4) (v := ?_) rfl (by kernel_rfl) (by kernel_rfl) (by kernel_rfl) (fun _ _ _ h => h) (Or.inl ⟨by rfl, ?_⟩) ?_; rotate_left 1; focus (intro W; go_simp; try (first | with_reducible rfl | (rw [if_pos (by omega)]; done) | (rw [if_pos (by omega), if_neg (by omega)]; done) | (rw [if_neg (by omega)]; done))))
        (refine wpAny_take (i := 5) (v := ?_) rfl (by kernel_rfl) (by kernel_rfl) (by kernel_rfl) (fun _ _ _ h => h) (Or.inl ⟨by rfl, ?_⟩) ?_; rotate_left 1; focus (intro W; go_simp; try (first | with_reducible rfl | (rw [if_pos (by omega)]; done) | (rw [if_pos (by omega), if_neg (by omega)]; done) | (rw [if_neg (by omega)]; done))))
        (refine wpAny_take (i := 6) (v := (.int .i64 (s : Int))) rfl (by kernel_rfl) (by kernel_rfl) (by kernel_rfl) (fun _ _ _ h => h) (Or.inl ⟨by rfl, ?_⟩) ?_; focus (intro W; go_simp; try (first | with_reducible rfl | (rw [if_pos (by omega)]; rfl) | (rw [if_neg (by omega)]; rfl) | rfl)))
        obtain ⟨z12, z13, z14, z15, z16⟩ := Z12.out
        (refine wpAny_take (i := 7) (v := (.slice (some ⟨b, o + at_ * 16, none⟩) k (c - at_))) rfl (by kernel_rfl) (by kernel_rfl) (by kernel_rfl) (fun _ _ _ h => h) (Or.inl ⟨by rfl, ?_⟩) ?_; focus (intro W; go_simp; try (first | with_reducible rfl | (rw [if_pos (by omega)]; rfl) | (rw [if_neg (by omega)]; rfl) | rfl)))
        clear z12 z13 z14 z15 z16 z9 z11
        refine wpAny_ready (rs := [1, 8]) (by kernel_rfl) (by simp) ?_
        refine AllReady.cons rfl (fun K hK => ?_) ?_
        · go_simp
          go_wp2
          refine wpAny_ready (rs := [8]) (by kernel_rfl) (by simp) (AllReady.cons rfl (fun K hK => ?_) AllReady.nil)
          go_simp
          go_wp2_with (first
            | (go_at_call 17; (with_reducible refine (HRB.out _ Y.z).mono ?_); rintro e2 w5 ⟨rfl, hb⟩; replace Y := Y.on hb; clear hb; unfold dv; have hDL := HDL.out; clear hq; have hq := Y.p.roots))
          refine wpAny_tail 9 4 rfl (by kernel_rfl) ?_
          simp only [List.drop_succ_cons, List.drop_zero]
          go_wp2_with (first
            | (at_builtin; rw [Wire.fold_cells (cs := D.map bv) (m := 16) (by rw [List.length_map]; exact HDL.out) _ rfl]; refine append_d rfl (.tmp 20) (.tmp 28) rfl (w.heap.size + 2) (.slice B q e) q L rfl (Y.own.on (Wire.b1 _ _)) w5.heap.size rfl D HDL.out (lit_range w5 HDL.out _) HQL.out (Nat.le_trans Y.room (Wire.b1 w5 _).size) ?_; intro v6 w6 ho6 hb6; obtain ⟨B6, e6, rfl, -⟩ := ho6.form; replace Y := (Y.on (Wire.b1 _ _)).step hb6 ho6; obtain ⟨⟨u1, f0⟩, f1⟩ := Y.some_ (i := 1) (by omega); clear ho6 hb6 hq hDL; have z9 := Z9.out; have z10 := Z10.out))
          go_roundw
          case rel => exact ⟨s, k / 2, B6, q + 1, e6, L ++ [D], by rw [Z10.out], by congr 1, Z8.out, HAT2, HPK2, Y.set⟩
          case measure => simp [intOf]; have := Z12.out; omega
        · refine AllReady.cons rfl (fun K hK => ?_) AllReady.nil
          go_simp
          go_wp2_with (first
            | (go_at_call 17; (with_reducible refine (HRB.out _ Y.z).mono ?_); rintro e2 w5 ⟨rfl, hb⟩; replace Y := Y.on hb; clear hb; unfold dv; have hDL := HDL.out; clear hq; have hq := Y.p.roots))
          refine wpAny_ready (rs := [1, 9]) (by kernel_rfl) (by simp) ?_
          refine AllReady.cons rfl (fun K hK => ?_) ?_
          · go_simp
            go_wp2
            refine wpAny_tail 9 4 rfl (by kernel_rfl) ?_
            simp only [List.drop_succ_cons, List.drop_zero]
            go_wp2_with (first
              | (at_builtin; rw [Wire.fold_cells (cs := D.map bv) (m := 16) (by rw [List.length_map]; exact HDL.out) _ rfl]; refine append_d rfl (.tmp 20) (.tmp 28) rfl (w.heap.size + 2) (.slice B q e) q L rfl (Y.own.on (Wire.b1 _ _)) w5.heap.size rfl D HDL.out (lit_range w5 HDL.out _) HQL.out (Nat.le_trans Y.room (Wire.b1 w5 _).size) ?_; intro v6 w6 ho6 hb6; obtain ⟨B6, e6, rfl, -⟩ := ho6.form; replace Y := (Y.on (Wire.b1 _ _)).step hb6 ho6; obtain ⟨⟨u1, f0⟩, f1⟩ := Y.some_ (i := 1) (by omega); clear ho6 hb6 hq hDL; have z9 := Z9.out; have z10 := Z10.out))
            go_roundw
            case rel => exact ⟨s, k / 2, B6, q + 1, e6, L ++ [D], by rw [Z10.out], by congr 1, Z8.out, HAT2, HPK2, Y.set⟩
            case measure => simp [intOf]; have := Z12.out; omega
          · refine AllReady.cons rfl (fun K hK => ?_) AllReady.nil
            go_simp
            go_wp2
            refine wpAny_ready (rs := [1]) (by kernel_rfl) (by simp) (AllReady.cons rfl (fun K hK => ?_) AllReady.nil)
            clear hq
            have hq := (Y.on (Wire.b1 _ (.cells (D.map bv).toArray 29))).p.roots
            rw [Wire.fold_cells (cs := D.map bv) (m := 16) (by rw [List.length_map]; exact HDL.out) _ rfl]
            go_simp
            go_wp2
            refine wpAny_tail 10 3 rfl (by kernel_rfl) ?_
            simp only [List.drop_succ_cons, List.drop_zero]
            go_wp2_with (first
              | (at_builtin; refine append_d rfl (.tmp 20) (.tmp 28) rfl (w.heap.size + 2) (.slice B q e) q L rfl (Y.own.on (Wire.b1 _ _)) w5.heap.size rfl D HDL.out (lit_range w5 HDL.out _) HQL.out (Nat.le_trans Y.room (Wire.b1 w5 _).size) ?_; intro v6 w6 ho6 hb6; obtain ⟨B6, e6, rfl, -⟩ := ho6.form; replace Y := (Y.on (Wire.b1 _ _)).step hb6 ho6; obtain ⟨⟨u1, f0⟩, f1⟩ := Y.some_ (i := 1) (by omega); clear ho6 hb6 hq hDL; have z9 := Z9.out; have z10 := Z10.out))
            go_roundw
            case rel => exact ⟨s, k / 2, B6, q + 1, e6, L ++ [D], by rw [Z10.out], by congr 1, Z8.out, HAT2, HPK2, Y.set⟩
            case measure => simp [intOf]; have := Z12.out; omega
      · have z1 : ¬ (k : Int) ≤ (n : Int) - (at_ : Int) := by omega
        have HAT2 : Hid (at_ ≤ n ∧ ((k / 2 = 0 ∧ n - at_ = 0) ∨ ∃ j, k / 2 = 2 ^ j ∧ n - at_ < 2 * (k / 2))) := Lib.hid ⟨hat, half_pow hkj (by omega)⟩
        have Z8 := Lib.hid z8
        have Z12 : Hid (0 < k) := Lib.hid (by omega)
        clear HAT hor hkj hlt hge hat z8 h0 hle hmost
        go_wp2
        go_roundw
        case rel => exact ⟨at_, k / 2, B, q, e, L, rfl, by congr 1, Z8.out, HAT2, HPK, Y⟩
        case measure => simp [intOf]; have := Z12.out; omega
end Mk
end Go.Proofs.YthpkeaafgabjiaaDoor

/- The reference of package merkle: SamePeaks. Conditions: the roots read as lists of digests. -/
namespace Go.Proofs.YthpkeaafgabjiaaDoor
open Go.RowKit
namespace Mk
open Wire (bv sv Lies)
open Hash (Arr bcj)

/-- Two peaks that came in. -/
structure Sa (w W : World) (n : Int) (A : Option Addr) (k c : Nat) (m : Int) (B : Option Addr) (q e : Nat) : Prop where
  p : Pk W w.heap.size n A k c
  q : Pk W (w.heap.size + 1) m B q e
  z : Below w.heap.size w W
theorem Sa.on {w W W' : World} {n m : Int} {A B : Option Addr} {k c q e : Nat} (h : Sa w W n A k c m B q e) (hb : Below W.heap.size W W') : Sa w W' n A k c m B q e := ⟨h.p.on hb, h.q.on hb, bcj h.z hb⟩
theorem sa_new (w : World) (n m : Int) (A B : Option Addr) (k c q e : Nat) (t t2 : TypeId) : Sa w ((w.alloc (.cells #[.int .i64 n, .slice A k c] t)).alloc (.cells #[.int .i64 m, .slice B q e] t2)) n A k c m B q e := by
  have h := pk_new (w.alloc (.cells #[.int .i64 n, .slice A k c] t)) m B q e t2
  rw [World.size_alloc] at h
  exact ⟨(pk_new w n A k c t).on (Wire.b1 _ _), h, bcj (Wire.b1 _ _) (Wire.b1 _ _)⟩

set_option maxRecDepth 100000 in
set_option maxHeartbeats 1000000 in
theorem refSamePeaks_any (n m : Int) (A B : Option Addr) (k c q e : Nat) (l l2 : List (List UInt8)) (w : World) (hl : LiesD w w.heap.size A k c l) (hl2 : LiesD w w.heap.size B q e l2) :
    Calls Tryd.prog 30 #[pkv n A k c, pkv m B q e] w (GivesT (decide (l = l2) && (n == m)) w) := by
  have Y := sa_new w n m A B k c q e 56 56
  have HS := Lib.hid (fun W (h : Below w.heap.size w W) => refSame_any l l2 k c q e A B W ((hl.below h).more h.size) ((hl2.below h).more h.size))
  have hc1 := Y.p.roots
  have hc2 := Y.q.roots
  generalize decide (l = l2) = R at *
  clear hl hl2
  unfold pkv
  cases R with
  | false =>
    show Calls _ _ _ _ (GivesT false w)
    go_enter Tryd.func30, Tryd.ntmps30
    go_wp2_with (first
      | (go_at_call 15; (with_reducible refine (HS.out _ Y.z).mono ?_); rintro e w1 ⟨rfl, hb⟩; replace Y := Y.on hb; clear hb hc1 hc2))
    go_ret
    exact ⟨rfl, Y.z⟩
  | true =>
    show Calls _ _ _ _ (GivesT (n == m) w)
    go_enter Tryd.func30, Tryd.ntmps30
    go_wp2_with (first
      | (go_at_call 15; (with_reducible refine (HS.out _ Y.z).mono ?_); rintro e w1 ⟨rfl, hb⟩; replace Y := Y.on hb; clear hb hc1 hc2; have hc1 := Y.p.size; have hc2 := Y.q.size))
    go_ret
    exact ⟨rfl, Y.z⟩
end Mk
end Go.Proofs.YthpkeaafgabjiaaDoor

