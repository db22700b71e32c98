/- MerklePeaksGrow walked. Conditions: what the package answers, that the examples hold, what came in, the tables are laid. -/
import Derived.Test.YtlnnognknalehaaDoorM28
import Derived.Test.YtlnnognknalehaaDoorM16
import Derived.Test.YtlnnognknalehaaDoorM14
import Derived.Test.YtlnnognknalehaaDoorM22
namespace Go.Proofs.YtlnnognknalehaaDoor
open Go.RowKit
namespace Mk
open Wire (bv sv Lies)
open Hash (Arr bcj)

/-- What stands in the loop: what came in, the other digest, the peaks so far. -/
structure Sg (w W : World) (o : List UInt8) (A : Option Addr) (n c : Nat) (l : List (List UInt8)) (g2 i : Nat) (B : Option Addr) (q e : Nat) : Prop where
  come : LiesD W w.heap.size A n c l
  z : Below w.heap.size w W
  d : Dg W w.heap.size o
  hg : w.heap.size < g2
  k : Pk W g2 (i : Int) B q e
  r : OwnD W (g2 + 1) (.slice B q e) q (Mk.pk HH (l.take i))
section
variable {w W W' : World} {o : List UInt8} {A : Option Addr} {n c : Nat} {l : List (List UInt8)} {g2 i : Nat} {B : Option Addr} {q e : Nat}
theorem Sg.on (h : Sg w W o A n c l g2 i B q e) (hb : Below W.heap.size W W') : Sg w W' o A n c l g2 i B q e := by
  have h1 := h.k.lt
  have h2 := h.hg
  exact ⟨h.come.below (hb.mono (by omega)), bcj h.z hb, h.d.on hb, h.hg, h.k.on hb, h.r.on hb⟩
theorem Sg.put (h : Sg w W o A n c l g2 i B q e) {i' : Nat} {B' : Option Addr} {q' e' : Nat} (hl : OwnD W (g2 + 1) (.slice B' q' e') q' (Mk.pk HH (l.take i'))) : Sg w (W.setCells g2 0 [.int .i64 (i' : Int), .slice B' q' e']) o A n c l g2 i' B' q' e' := by
  have hb := Hash.below_cells (B := g2) (g := g2) (Nat.le_refl _) [.int .i64 (i' : Int), .slice B' q' e'] 0 W
  have h2 := h.hg
  exact ⟨h.come.below (hb.mono (by omega)), h.z.trans (hb.mono (by omega)), h.d.aside (Nat.ne_of_lt h2) _, h.hg, ⟨h.k.arr.over rfl⟩, hl.cells (by omega) _ _⟩
theorem Sg.more (h : Sg w W o A n c l g2 i B q e) : LiesD W W.heap.size A n c l := h.come.more (by have := h.k.lt; have := h.hg; omega)
theorem Sg.roots (h : Sg w W o A n c l g2 i B q e) : LiesD W W.heap.size B q e (Mk.pk HH (l.take i)) := by
  obtain ⟨A', c', e1, hL⟩ := h.r.form
  cases e1
  exact hL
end
/-- In the loop's last test: what the round made, far off. -/
structure Sh (w W : World) (o : List UInt8) (A : Option Addr) (n c : Nat) (l : List (List UInt8)) (g2 i : Nat) (B : Option Addr) (q e : Nat) (w9 : World) : Prop where
  s : Sg w W o A n c l g2 i B q e
  far : Below w9.heap.size w9 W
theorem Sh.on {w W W' w9 : World} {o : List UInt8} {A : Option Addr} {n c : Nat} {l : List (List UInt8)} {g2 i : Nat} {B : Option Addr} {q e : Nat} (h : Sh w W o A n c l g2 i B q e w9) (hb : Below W.heap.size W W') : Sh w W' o A n c l g2 i B q e w9 := ⟨h.s.on hb, bcj h.far hb⟩

set_option maxRecDepth 100000 in
set_option maxHeartbeats 16000000 in
theorem law_grow (pk : Pkg) (hs : ∀ W, TT W → Calls Tryd.prog 10 #[] W (GivesT true W)) (l : List (List UInt8)) (n c : Nat) (A : Option Addr) (o : List UInt8) (w : World) (ho : o.length = 16) (hl : LiesD w w.heap.size A n c l) (ht : TT w) :
    Calls Tryd.prog 8 #[.slice A n c, dv o] w (GivesT true w) := by
  have hdn := dg_new w ho 29
  have Z : Below w.heap.size w (w.alloc (.cells (o.map bv).toArray 29)) := Wire.b1 _ _
  have HSA := Lib.hid (fun W (h : Below w.heap.size w W) => hs W (ht.on h))
  have HO := Lib.hid ho
  unfold dv
  by_cases hn : 70 < n
  · have z0 : (70 : Int) < (n : Int) := by omega
    clear hl ht hs hdn
    go_enter Tryd.func8, Tryd.ntmps8
    go_wp2_with (first
      | (go_at_call 10; (with_reducible refine (HSA.out _ Z).mono ?_); rintro e w1 ⟨rfl, hb⟩; replace Z := bcj Z hb; clear hb))
    go_ret
    exact ⟨rfl, Z⟩
  · have z0 : ¬ (70 : Int) < (n : Int) := by omega
    have HN70 : Hid (n ≤ 70) := Lib.hid (by omega)
    have hln := hl.len
    have HLN := Lib.hid hln
    have HOK := Lib.hid hl.ok
    have HTT := Lib.hid ht
    have hmost : (c : Int) ≤ 9223372036854775807 := by have := hl.lies.most; unfold maxLen at this; omega
    have hnc : n ≤ c := hl.lies.le
    have hok : ∀ (i : Nat) (W : World) B q e, i ≤ n → LiesD W W.heap.size B q e (Mk.pk HH (l.take i)) → pkOk (i : Int) q = true := fun i W B q e hi hL => by
      have hlen : (l.take i).length = i := by rw [List.length_take]; omega
      have hq : q = ones i := by rw [← hL.len, pk_length HH _ (l.take i) rfl, hlen]
      unfold pkOk
      simp only [Bool.and_eq_true, decide_eq_true_eq, Int.toNat_natCast]
      exact ⟨by omega, by omega, hq⟩
    have HAD : Hid (∀ W (i : Nat) B q e d, l[i]? = some d → LiesD W W.heap.size B q e (Mk.pk HH (l.take i)) → Below w.heap.size w W → Calls Tryd.prog 28 #[.agg #[.int .i64 (i : Int), .slice B q e], .agg (d.map bv).toArray] W (GivesK ((i : Int) + 1) (Mk.pk HH (l.take (i + 1))) 0 W)) := Lib.hid (fun W i B q e d hd hL hz => by
      have hi : i < l.length := (List.getElem?_eq_some_iff.1 hd).1
      have hlen : (l.take i).length = i := by rw [List.length_take]; omega
      have h1 := pk.add i B q e _ d W (hl.ok.at_ hd) hL (ht.p.on hz) (hok i W B q e (by omega) hL) (by omega)
      have h2 := added_pk HH _ (l.take i) d rfl
      rw [hlen, show l.take i ++ [d] = l.take (i + 1) by rw [List.take_add_one, hd]; rfl] at h2
      rwa [h2] at h1)
    have HAO : Hid (∀ W (i : Nat) B q e, i < n → LiesD W W.heap.size B q e (Mk.pk HH (l.take i)) → Below w.heap.size w W → Calls Tryd.prog 28 #[pkv (i : Int) B q e, dv o] W (GivesK ((i : Int) + 1) (added HH (Mk.pk HH (l.take i)) i o) 0 W)) := Lib.hid (fun W i B q e hi hL hz => pk.add i B q e _ o W ho hL (ht.p.on hz) (hok i W B q e (by omega) hL) (by omega))
    have HTP : Hid (∀ W (i : Nat) B q e, i ≤ n → LiesD W W.heap.size B q e (Mk.pk HH (l.take i)) → Below w.heap.size w W → Calls Tryd.prog 29 #[pkv (i : Int) B q e] W (GivesZ (root HH (l.take i)) 0 W)) := Lib.hid (fun W i B q e hi hL hz => by
      have h1 := pk.top (i : Int) B q e _ W hL (ht.p.on hz) (hok i W B q e hi hL)
      rwa [topOf_pk HH _ (l.take i) rfl] at h1)
    have HRT : Hid (∀ (i : Nat) W, i ≤ n → LiesD W w.heap.size A n c l → Below w.heap.size w W → Calls Tryd.prog 16 #[.slice A i c] W (Hash.GivesA ((root HH (l.take i)).map bv) W)) := Lib.hid (fun i W hi hL hz => pk.root i c A _ W (by omega) ((hL.take hi).more hz.size) (ht.p.on hz))
    have HPK : Hid (∀ W, LiesD W W.heap.size A n c l → Below w.heap.size w W → Calls Tryd.prog 31 #[.slice A n c] W (GivesPk (n : Int) (Mk.pk HH l) W)) := Lib.hid (fun W hL hz => refPeaks_any n c A l (by omega) W hL (ht.on hz))
    have HRL : Hid (∀ i, (root HH (l.take i)).length = 16) := Lib.hid (fun i => root_length _)
    have hl' : LiesD (w.alloc (.cells (o.map bv).toArray 29)) w.heap.size A n c l := hl.below Z
    have HL0 : Hid (∀ W, Below w.heap.size w W → LiesD W w.heap.size A n c l) := Lib.hid (fun W h => hl.below h)
    have HD0 := Lib.hid hdn
    clear hl ht hs hdn hok hln hl' hn ho
    go_enter Tryd.func8, Tryd.ntmps8
    go_wp2_with (first
      | (go_at_call 10; (with_reducible refine (HSA.out _ Z).mono ?_); rintro e w1 ⟨rfl, hb⟩; replace Z := bcj Z hb; replace HD0 := Lib.hid (HD0.out.on hb); clear hb)
      | (refine build_k0 rfl rfl ?_)
      | (refine store_k (.tmp 6) (.tmp 22) rfl rfl w1.heap.size rfl (n := 0) (A := none) (k := 0) (c := 0) rfl (pk_new w1 0 none 0 0 _).arr.there ?_; refine Hash.gen_world (Pq := fun W => Sg w W o A n c l w1.heap.size 0 none 0 0) (G := fun W => wpList _ _ _ _ _ W) (by
          have h7 := k_new w1 0 none 0 0 56
          have h0 := ownD_nil ((w1.alloc (.cells #[.int .i64 0, .slice none 0 0] 56)).setCells w1.heap.size 0 [.int .i64 0, .slice none 0 0]) (w1.heap.size + 1)
          rw [show ([] : List (List UInt8)) = Mk.pk HH (l.take 0) from (pk_nil HH).symm] at h0
          exact ⟨HL0.out _ (bcj Z h7.1), bcj Z h7.1, HD0.out.on h7.1, HD0.out.lt, h7.2, h0⟩) ?_; clear Z HD0; intro W7 YS))
    generalize w1.heap.size = g2 at *
    go_loopw [7] (fun iv wr => ∃ (i : Nat) (B : Option Addr) (q e : Nat), i ≤ n ∧ iv = .int .i64 (i : Int) ∧ Sg w wr o A n c l g2 i B q e) (fun iv _ => ((n : Int) - intOf iv).toNat)
    case atStart => exact ⟨0, none, 0, 0, Nat.zero_le _, rfl, YS⟩
    case round =>
      clear YS
      obtain ⟨i, B, q, e, hi, rfl, Y⟩ := hrel
      by_cases hlt : i < n
      · have HIN := Lib.hid hlt
        obtain ⟨d, hd⟩ : ∃ d, l[i]? = some d := ⟨_, List.getElem?_eq_getElem (by rw [HLN.out]; exact hlt)⟩
        obtain ⟨b, ob, rfl, hbb, -⟩ := Y.come.row hd
        have HDL := Lib.hid (HOK.out.at_ hd)
        have HD := Lib.hid hd
        obtain ⟨R, hR⟩ : ∃ R, R = root HH (l.take i) := ⟨_, rfl⟩
        have HTPi : Hid (∀ W B q e, LiesD W W.heap.size B q e (Mk.pk HH (l.take i)) → Below w.heap.size w W → Calls Tryd.prog 29 #[pkv (i : Int) B q e] W (GivesZ R 0 W)) := Lib.hid (fun W B q e hL hz => by rw [hR]; exact HTP.out W i B q e hi hL hz)
        have HRTi : Hid (∀ W, Below w.heap.size w W → Calls Tryd.prog 16 #[.slice (some ⟨b, ob, none⟩) i c] W (Hash.GivesA (R.map bv) W)) := Lib.hid (fun W hz => by rw [hR]; exact HRT.out i W hi (HL0.out W hz) hz)
        have HRLi : Hid (R.length = 16) := Lib.hid (by rw [hR]; exact HRL.out i)
        have E2 := Lib.hid (fun W => neq_d R R HRLi.out HRLi.out W)
        rw [show (!(R == R)) = false by simp] at E2
        have z3 : (i : Int) < (n : Int) := by omega
        have z4 : (0 : Int) ≤ (i : Int) := by omega
        have z5 : (i : Int) ≤ (c : Int) := by omega
        have z6 : i ≤ c := by omega
        clear hd hbb hR hi hlt
        go_wp2
        replace Y := Y.on (Hash.belowD _)
        refine RegC.region (fun W => Sg w W o (some ⟨b, ob, none⟩) n c l g2 i B q e) [6, 7, 8, 10, 11] (by kernel_rfl) ?_
        (refine RegC.take (i := 1) (v := ?_) rfl (by kernel_rfl) (by kernel_rfl) (by kernel_rfl) (by kernel_rfl) (by kernel_rfl) (fun _ _ _ h => h) (Or.inl ⟨by rfl, ?_⟩) Y ?_; rotate_left 1; focus (intro W hW; go_simp; try (first | with_reducible rfl | (rw [if_pos (by omega)]; done) | (rw [if_pos (by omega), if_neg (by omega)]; done) | (rw [if_neg (by omega)]; done))))
        (refine RegC.take (i := 2) (v := ?_) rfl (by kernel_rfl) (by kernel_rfl) (by kernel_rfl) (by kernel_rfl) (by kernel_rfl) (fun _ _ _ h => h) (Or.inl ⟨by rfl, ?_⟩) Y ?_; rotate_left 1; focus (intro W hW; go_simp; try (first | with_reducible rfl | (rw [if_pos (by omega)]; done) | (rw [if_pos (by omega), if_neg (by omega)]; done) | (rw [if_neg (by omega)]; done))))
        (refine RegC.take (i := 3) (v := .pointer (some ⟨b, ob + i * 16, none⟩)) rfl (by kernel_rfl) (by kernel_rfl) (by kernel_rfl) (by kernel_rfl) (by kernel_rfl) (fun _ _ _ h => h) (Or.inl ⟨by rfl, ?_⟩) Y ?_; focus (intro W hW; go_simp; try (first | with_reducible rfl | rfl | (rw [if_pos (by omega)]; done) | (rw [if_pos (by omega)]; rfl) | (rw [if_pos (by omega), if_neg (by omega)]; rfl) | (rw [if_neg (by omega)]; rfl))))
        refine RegC.take (i := 0) (v := .agg #[.int .i64 (i : Int), .slice B q e]) rfl (by kernel_rfl) (by kernel_rfl) (by kernel_rfl) (by kernel_rfl) (by kernel_rfl) (fun _ _ _ h => h) (Or.inl ⟨by rfl, fun W hW => ?_⟩) Y ?_
        · obtain ⟨dd, h1, h2⟩ := und_k
          exact exec_row 56 (.tmp 6) rfl g2 0 rfl [.int .i64 (i : Int), .slice B q e] dd hW.k.arr.range h1 h2 (info_k _ _ _ _)
        refine RegC.take (i := 4) (v := .agg (d.map bv).toArray) rfl (by kernel_rfl) (by kernel_rfl) (by kernel_rfl) (by kernel_rfl) (by kernel_rfl) (fun _ _ _ h => h) (Or.inl ⟨by rfl, fun W hW => ?_⟩) Y ?_
        · refine exec_row 29 (.tmp 33) rfl b (ob + i * 16) rfl (d.map bv) _ ?_ und_d rfl (info_d HDL.out)
          obtain ⟨b', o', e', _, hr'⟩ := hW.come.row HD.out
          simp only [Option.some.injEq, Addr.mk.injEq, and_true] at e'
          obtain ⟨rfl, rfl⟩ := e'
          exact hr'
        refine RegC.ready (rs := [5, 9]) (by kernel_rfl) (by simp) ?_
        refine RegC.cons rfl (fun K hK => ?_) ?_
        · go_simp
          go_wp2_with (first
            | (go_at_call 28; (with_reducible refine (HAD.out _ i B q e d HD.out Y.roots Y.z).mono ?_); rintro e2 w8 ⟨B8, q8, c8, rfl, ho, hb⟩; have HO8 := Lib.hid (ho.more (Nat.succ_le_of_lt Y.k.lt)); replace Y := Y.on hb; clear hb ho))
          refine ⟨fun _ => Y, ?_⟩
          (refine RegC.takeW (i := 6) (v := ?_) rfl (by kernel_rfl) (by kernel_rfl) (by kernel_rfl) (by kernel_rfl) (fun _ _ _ h => h) (Or.inl ⟨by rfl, ?_⟩) ?_; rotate_left 1; focus (intro W; go_simp; try (first | with_reducible rfl | (rw [if_pos (by omega)]; done))))
          (refine RegC.takeW (i := 7) (v := ?_) rfl (by kernel_rfl) (by kernel_rfl) (by kernel_rfl) (by kernel_rfl) (fun _ _ _ h => h) (Or.inl ⟨by rfl, ?_⟩) ?_; rotate_left 1; focus (intro W; go_simp; try (first | with_reducible rfl | (rw [if_pos (by omega)]; done))))
          (refine RegC.takeW (i := 8) (v := ?_) rfl (by kernel_rfl) (by kernel_rfl) (by kernel_rfl) (by kernel_rfl) (fun _ _ _ h => h) (Or.inl ⟨by rfl, ?_⟩) ?_; rotate_left 1; focus (intro W; go_simp; try (first | with_reducible rfl | (rw [if_pos (by omega)]; done))))
          refine RegC.ready (rs := [9]) (by kernel_rfl) (by simp) ?_
          refine RegC.cons rfl (fun K hK => ?_) RegC.nil
          go_simp
          refine hK _ _ ⟨fun _ => Y.on (Wire.b1 _ _), ?_⟩
          refine RegC.rest (by kernel_rfl) ?_
          refine wpAny_tail 10 2 rfl (by kernel_rfl) ?_
          simp only [List.drop_succ_cons, List.drop_zero]
          go_wp2_with (first
            | (refine store_k (.tmp 8) (.tmp 36) rfl rfl w8.heap.size rfl (n := (i : Int) + 1) (A := B8) (k := q8) (c := c8) rfl (pk_new w8 0 none 0 0 _).arr.there ?_; refine Hash.gen_world (Pq := fun W => Sg w W o (some ⟨b, ob, none⟩) n c l g2 i B q e ∧ Pk W w8.heap.size ((i : Int) + 1) B8 q8 c8 ∧ OwnD W (g2 + 1) (.slice B8 q8 c8) q8 (Mk.pk HH (l.take (i + 1)))) (G := fun W => wpList _ _ _ _ _ W) ⟨Y.on (k_new w8 _ _ _ _ _).1, (k_new w8 _ _ _ _ _).2, HO8.out.on (k_new w8 _ _ _ _ _).1⟩ ?_; clear Y; intro W9 Y9; obtain ⟨Y, hk9, ho9⟩ := Y9; have HK9 := Lib.hid hk9; have HO9 := Lib.hid ho9; clear hk9 ho9)
            | (refine load_k 39 rfl rfl _ rfl g2 rfl (n := (i : Int)) Y.k ?_)
            | (refine load_d 40 rfl rfl _ rfl w.heap.size 0 rfl o HO.out Y.d.range ?_)
            | (go_at_call 28; (with_reducible refine (HAO.out _ i B q e HIN.out Y.roots Y.z).mono ?_); rintro e3 w10 h10; obtain ⟨B10, q10, c10, rfl, -, hb⟩ := h10.lies; replace HK9 := Lib.hid (HK9.out.on hb); replace HO9 := Lib.hid (HO9.out.on hb); replace Y := Y.on hb; clear hb h10)
            | (refine store_k (.tmp 10) (.tmp 42) rfl rfl w10.heap.size rfl (n := (i : Int) + 1) (A := B10) (k := q10) (c := c10) rfl (pk_new w10 0 none 0 0 _).arr.there ?_; refine Hash.gen_world (Pq := fun W => Below w10.heap.size w10 W ∧ Pk W w10.heap.size ((i : Int) + 1) B10 q10 c10) (G := fun W => wpList _ _ _ _ _ W) (k_new w10 ((i : Int) + 1) B10 q10 c10 _) ?_; intro W11 h11; replace HK9 := Lib.hid (HK9.out.on h11.1); replace HO9 := Lib.hid (HO9.out.on h11.1); replace Y := Y.on h11.1; have HK11 := Lib.hid h11.2; clear h11)
            | (refine load_k 45 rfl rfl _ rfl g2 rfl (n := (i : Int)) Y.k ?_)
            | (go_at_call 29; (with_reducible refine (HTPi.out _ B q e Y.roots Y.z).mono ?_); rintro e4 w12 ⟨rfl, hb⟩; replace HK9 := Lib.hid (HK9.out.on hb); replace HO9 := Lib.hid (HO9.out.on hb); replace HK11 := Lib.hid (HK11.out.on hb); replace Y := Y.on hb; clear hb)
            | (refine store_d (.tmp 12) (.tmp 47) rfl rfl w12.heap.size 0 rfl R rfl HRLi.out (dg_zero w12 _).there ?_; refine Hash.gen_world (Pq := fun W => Below w12.heap.size w12 W ∧ Dg W w12.heap.size R) (G := fun W => wpList _ _ _ _ _ W) (d_new w12 HRLi.out _) ?_; intro W13 h13; replace HK9 := Lib.hid (HK9.out.on h13.1); replace HO9 := Lib.hid (HO9.out.on h13.1); replace HK11 := Lib.hid (HK11.out.on h13.1); replace Y := Y.on h13.1; have HD13 := Lib.hid h13.2; clear h13))
          have HRX : Hid (∀ W, Below W13.heap.size W13 W → Calls Tryd.prog 16 #[.slice (some ⟨b, ob, none⟩) i c] W (Hash.GivesA (R.map bv) W)) := Lib.hid (fun W h => HRTi.out W (bcj Y.z h))
          have HC10 : Hid (∀ W, Below W13.heap.size W13 W → W.cell? ⟨w10.heap.size, 0, none⟩ = some (.int .i64 ((i : Int) + 1))) := Lib.hid (fun W h => (HK11.out.on h).size)
          have z7 : IntKind.i64.wrap ((i : Int) + 1) = (i : Int) + 1 := IntWalk.i64_in _ (by have := HIN.out; have := HN70.out; omega)
          refine QTail.whole (fun W => Below W13.heap.size W13 W) (by kernel_rfl) (by kernel_rfl) (Hash.belowD _) ?_
          (refine wpQuiet_step (fun K hK => ?_); go_simp; (first | refine hK _ ?_ | refine ⟨_, fun _ _ => rfl, hK _ ?_⟩); clear hK K)
          (refine wpQuiet_step (fun K hK => ?_); go_simp; (first | refine hK _ ?_ | refine ⟨_, fun _ _ => rfl, hK _ ?_⟩); clear hK K)
          (refine wpQuiet_step (fun K hK => ?_); go_simp; (first | refine hK _ ?_ | refine ⟨_, fun _ _ => rfl, hK _ ?_⟩); clear hK K)
          (refine wpQuiet_step (fun K hK => ?_); go_simp; (first | refine hK _ ?_ | refine ⟨_, fun _ _ => rfl, hK _ ?_⟩); clear hK K)
          (refine wpQuiet_step (fun K hK => ?_); go_simp; (first | refine hK _ ?_ | refine ⟨_, fun _ _ => rfl, hK _ ?_⟩); clear hK K)
          (refine wpQuiet_step (fun K hK => ?_); go_simp; (first | refine hK _ ?_ | refine ⟨_, fun _ _ => rfl, hK _ ?_⟩); clear hK K)
          (refine wpQuiet_step (fun K hK => ?_); go_simp; (first | refine hK _ ?_ | refine ⟨_, fun _ _ => rfl, hK _ ?_⟩); clear hK K)
          (refine wpQuiet_step (fun K hK => ?_); go_simp; (first | refine hK _ ?_ | refine ⟨_, fun _ _ => rfl, hK _ ?_⟩); clear hK K)
          (refine wpQuiet_step (fun K hK => ?_); go_simp; (first | refine hK _ ?_ | refine ⟨_, fun _ _ => rfl, hK _ ?_⟩); clear hK K)
          (refine wpQuiet_step (fun K hK => ?_); go_simp; (first | refine hK _ ?_ | refine ⟨_, fun _ _ => rfl, hK _ ?_⟩); clear hK K)
          (refine wpQuiet_step (fun K hK => ?_); go_simp; (first | refine hK _ ?_ | refine ⟨_, fun _ _ => rfl, hK _ ?_⟩); clear hK K)
          (refine wpQuiet_step (fun K hK => ?_); go_simp; refine ⟨.pointer (some ⟨w10.heap.size, 0, none⟩), fun W hW => ?_, hK _ ?_⟩; (first | (rw [if_pos (by omega)]; exact ⟨rfl, rfl⟩) | (rw [if_pos (by omega)]; rfl) | exact ⟨rfl, rfl⟩ | rfl); clear hK K)
          (refine wpQuiet_step (fun K hK => ?_); go_simp; refine ⟨(.int .i64 ((i : Int) + 1)), fun W hW => ?_, hK _ ?_⟩; (first | (rw [HC10.out W hW]; exact ⟨rfl, rfl⟩) | (rw [HC10.out W hW]; rfl)); clear hK K)
          (refine wpQuiet_step (fun K hK => ?_); go_simp; (first | refine hK _ ?_ | refine ⟨_, fun _ _ => rfl, hK _ ?_⟩); clear hK K)
          (refine wpQuiet_step (fun K hK => ?_); go_simp; (first | refine hK _ ?_ | refine ⟨_, fun _ _ => rfl, hK _ ?_⟩); clear hK K)
          (refine wpQuiet_step (fun K hK => ?_); go_simp; (first | refine hK _ ?_ | refine ⟨_, fun _ _ => rfl, hK _ ?_⟩); clear hK K)
          (refine wpQuiet_step (fun K hK => ?_); go_simp; (first | refine hK _ ?_ | refine ⟨_, fun _ _ => rfl, hK _ ?_⟩); clear hK K)
          (refine wpQuiet_step (fun K hK => ?_); go_simp; (first | refine hK _ ?_ | refine ⟨_, fun _ _ => rfl, hK _ ?_⟩); clear hK K)
          refine QTail.loadC (by rfl) 29 (.tmp 12) rfl w12.heap.size 0 rfl (R.map bv) _ (fun W h => (HD13.out.on h).range) und_d rfl (info_d HRLi.out) ?_
          (refine wpQuiet_step (fun K hK => ?_); go_simp; (first | refine hK _ ?_ | refine ⟨_, fun _ _ => rfl, hK _ ?_⟩); clear hK K)
          (refine wpQuiet_step (fun K hK => ?_); go_simp; (first | refine hK _ ?_ | refine ⟨_, fun _ _ => rfl, hK _ ?_⟩); clear hK K)
          (refine wpQuiet_step (fun K hK => ?_); go_simp; refine ⟨(.slice (some ⟨b, ob, none⟩) i c), fun W hW => ?_, hK _ ?_⟩; (first | exact ⟨rfl, rfl⟩ | rfl | (rw [if_pos (by omega)]; exact ⟨rfl, rfl⟩) | (rw [if_pos (by omega), if_neg (by omega)]; exact ⟨rfl, rfl⟩) | (rw [if_neg (by omega)]; exact ⟨rfl, rfl⟩)); clear hK K)
          (refine wpQuiet_step (fun K hK => ?_); go_simp; refine ⟨_, fun W hW => (HRX.out W hW).mono fun e w' ⟨he, hb⟩ => ⟨he, hW.trans (hb.mono hW.size)⟩, hK _ ?_⟩; clear hK K)
          have e2 := E2.out
          (refine wpQuiet_step (fun K hK => ?_); go_simp; (first | refine hK _ ?_ | refine ⟨_, fun _ _ => rfl, hK _ ?_⟩); clear hK K)
          (refine wpQuiet_step (fun K hK => ?_); go_simp; (first | refine hK _ ?_ | refine ⟨_, fun _ _ => rfl, hK _ ?_⟩); clear hK K)
          refine wpQuiet_nil ?_
          clear e2 z7
          intro W14 hb14
          replace HK9 := Lib.hid (HK9.out.on hb14)
          replace HO9 := Lib.hid (HO9.out.on hb14)
          replace Y := Y.on hb14
          clear hb14
          go_wp2_with (first
            | (refine load_k 74 rfl rfl _ rfl w8.heap.size rfl HK9.out ?_)
            | (refine store_k (.tmp 6) (.tmp 74) rfl rfl g2 rfl (n := (i : Int) + 1) (A := B8) (k := q8) (c := c8) rfl Y.k.arr.there ?_; refine Hash.gen_world (Pq := fun W => Sg w W o (some ⟨b, ob, none⟩) n c l g2 (i + 1) B8 q8 c8) (G := fun W => wpList _ _ _ _ _ W) (Y.put (i' := i + 1) HO9.out) ?_; clear Y; intro W15 Y))
          go_roundw
          case rel => exact ⟨i + 1, B8, q8, c8, Nat.succ_le_of_lt HIN.out, by go_num, Y⟩
          case measure => simp [intOf]; omega
        · refine RegC.cons rfl (fun K hK => ?_) RegC.nil
          go_simp
          refine hK _ _ ⟨fun _ => Y.on (Wire.b1 _ _), ?_⟩
          have Y0 := Y
          have Y1 : Sg w (World.drew (wr.alloc (.cells #[.int .i64 0, .slice none 0 0] 56))) o (some ⟨b, ob, none⟩) n c l g2 i B q e := Y.on (Wire.b1 (World.drew wr) (.cells #[.int .i64 0, .slice none 0 0] 56))
          have hp0 : Pk (World.drew (wr.alloc (.cells #[.int .i64 0, .slice none 0 0] 56))) wr.heap.size 0 none 0 0 := pk_new (World.drew wr) 0 none 0 0 _
          have hbl : Below wr.heap.size (World.drew wr) (World.drew (wr.alloc (.cells #[.int .i64 0, .slice none 0 0] 56))) := Wire.b1 (World.drew wr) (.cells #[.int .i64 0, .slice none 0 0] 56)
          have hs14 : (World.drew (wr.alloc (.cells #[.int .i64 0, .slice none 0 0] 56))).heap.size = wr.heap.size + 1 := World.size_alloc _ _
          have hg214 : g2 < wr.heap.size := Y0.k.lt
          have HP0 := Lib.hid hp0
          have HBL := Lib.hid hbl
          have HS14 := Lib.hid hs14
          clear Y hp0 hbl hs14
          have Y := Y1
          clear Y1
          refine RegC.ready (rs := [5]) (by kernel_rfl) (by simp) ?_
          refine RegC.cons rfl (fun K hK => ?_) RegC.nil
          go_simp
          go_wp2_with (first
            | (go_at_call 28; (with_reducible refine (HAD.out _ i B q e d HD.out Y.roots Y.z).mono ?_); rintro e2 w8 ⟨B8, q8, c8, rfl, ho, hb⟩; have HB8 := Lib.hid hb; have HO8 := Lib.hid ho; replace Y := Y.on hb; clear hb ho))
          refine ⟨fun _ => Y, ?_⟩
          refine RegC.rest (by kernel_rfl) ?_
          (refine wpAny_take (i := 6) (v := ?_) rfl (by kernel_rfl) (by kernel_rfl) (by kernel_rfl) (fun _ _ _ h => h) (Or.inl ⟨by rfl, ?_⟩) ?_; rotate_left 1; focus (intro W; go_simp; try (first | with_reducible rfl | (rw [if_pos (by omega)]; done))))
          (refine wpAny_take (i := 7) (v := ?_) rfl (by kernel_rfl) (by kernel_rfl) (by kernel_rfl) (fun _ _ _ h => h) (Or.inl ⟨by rfl, ?_⟩) ?_; rotate_left 1; focus (intro W; go_simp; try (first | with_reducible rfl | (rw [if_pos (by omega)]; done))))
          (refine wpAny_take (i := 8) (v := ?_) rfl (by kernel_rfl) (by kernel_rfl) (by kernel_rfl) (fun _ _ _ h => h) (Or.inl ⟨by rfl, ?_⟩) ?_; rotate_left 1; focus (intro W; go_simp; try (first | with_reducible rfl | (rw [if_pos (by omega)]; done))))
          refine wpAny_tail 10 2 rfl (by kernel_rfl) ?_
          simp only [List.drop_succ_cons, List.drop_zero]
          have HP14 : Hid (Pk w8 wr.heap.size 0 none 0 0) := Lib.hid (HP0.out.on HB8.out)
          have HT14 : Hid (w8.there wr.heap.size 0 2) := Lib.hid HP14.out.arr.there
          have HF14 : Hid (∀ B8 q8 c8, OwnD w8 (World.drew (wr.alloc (.cells #[.int .i64 0, .slice none 0 0] 56))).heap.size (.slice B8 q8 c8) q8 (Mk.pk HH (l.take (i + 1))) → Sg w (w8.setCells wr.heap.size 0 [.int .i64 ((i : Int) + 1), .slice B8 q8 c8]) o (some ⟨b, ob, none⟩) n c l g2 i B q e ∧ Pk (w8.setCells wr.heap.size 0 [.int .i64 ((i : Int) + 1), .slice B8 q8 c8]) wr.heap.size ((i : Int) + 1) B8 q8 c8 ∧ OwnD (w8.setCells wr.heap.size 0 [.int .i64 ((i : Int) + 1), .slice B8 q8 c8]) (g2 + 1) (.slice B8 q8 c8) q8 (Mk.pk HH (l.take (i + 1)))) := Lib.hid (fun B8 q8 c8 h8 => ⟨Y0.on ((HBL.out.trans (HB8.out.mono (by rw [HS14.out]; exact Nat.le_succ _))).trans (Hash.below_cells (Nat.le_refl _) _ _ _)), ⟨HP14.out.arr.over rfl⟩, (h8.cells (by rw [HS14.out]; exact Nat.lt_succ_self _) _ _).more (by rw [HS14.out]; omega)⟩)
          clear Y0 hg214
          go_wp2_with (first
            | (refine store_k (.tmp 8) (.tmp 36) rfl rfl wr.heap.size rfl (n := (i : Int) + 1) (A := B8) (k := q8) (c := c8) rfl HT14.out ?_; refine Hash.gen_world (Pq := fun W => Sg w W o (some ⟨b, ob, none⟩) n c l g2 i B q e ∧ Pk W wr.heap.size ((i : Int) + 1) B8 q8 c8 ∧ OwnD W (g2 + 1) (.slice B8 q8 c8) q8 (Mk.pk HH (l.take (i + 1)))) (G := fun W => wpList _ _ _ _ _ W) (HF14.out B8 q8 c8 HO8.out) ?_; clear Y; intro W9 Y9; obtain ⟨Y, hk9, ho9⟩ := Y9; have HK9 := Lib.hid hk9; have HO9 := Lib.hid ho9; clear hk9 ho9)
            | (refine load_k 39 rfl rfl _ rfl g2 rfl (n := (i : Int)) Y.k ?_)
            | (refine load_d 40 rfl rfl _ rfl w.heap.size 0 rfl o HO.out Y.d.range ?_)
            | (go_at_call 28; (with_reducible refine (HAO.out _ i B q e HIN.out Y.roots Y.z).mono ?_); rintro e3 w10 h10; obtain ⟨B10, q10, c10, rfl, -, hb⟩ := h10.lies; replace HK9 := Lib.hid (HK9.out.on hb); replace HO9 := Lib.hid (HO9.out.on hb); replace Y := Y.on hb; clear hb h10)
            | (refine store_k (.tmp 10) (.tmp 42) rfl rfl w10.heap.size rfl (n := (i : Int) + 1) (A := B10) (k := q10) (c := c10) rfl (pk_new w10 0 none 0 0 _).arr.there ?_; refine Hash.gen_world (Pq := fun W => Below w10.heap.size w10 W ∧ Pk W w10.heap.size ((i : Int) + 1) B10 q10 c10) (G := fun W => wpList _ _ _ _ _ W) (k_new w10 ((i : Int) + 1) B10 q10 c10 _) ?_; intro W11 h11; replace HK9 := Lib.hid (HK9.out.on h11.1); replace HO9 := Lib.hid (HO9.out.on h11.1); replace Y := Y.on h11.1; have HK11 := Lib.hid h11.2; clear h11)
            | (refine load_k 45 rfl rfl _ rfl g2 rfl (n := (i : Int)) Y.k ?_)
            | (go_at_call 29; (with_reducible refine (HTPi.out _ B q e Y.roots Y.z).mono ?_); rintro e4 w12 ⟨rfl, hb⟩; replace HK9 := Lib.hid (HK9.out.on hb); replace HO9 := Lib.hid (HO9.out.on hb); replace HK11 := Lib.hid (HK11.out.on hb); replace Y := Y.on hb; clear hb)
            | (refine store_d (.tmp 12) (.tmp 47) rfl rfl w12.heap.size 0 rfl R rfl HRLi.out (dg_zero w12 _).there ?_; refine Hash.gen_world (Pq := fun W => Below w12.heap.size w12 W ∧ Dg W w12.heap.size R) (G := fun W => wpList _ _ _ _ _ W) (d_new w12 HRLi.out _) ?_; intro W13 h13; replace HK9 := Lib.hid (HK9.out.on h13.1); replace HO9 := Lib.hid (HO9.out.on h13.1); replace HK11 := Lib.hid (HK11.out.on h13.1); replace Y := Y.on h13.1; have HD13 := Lib.hid h13.2; clear h13))
          have HRX : Hid (∀ W, Below W13.heap.size W13 W → Calls Tryd.prog 16 #[.slice (some ⟨b, ob, none⟩) i c] W (Hash.GivesA (R.map bv) W)) := Lib.hid (fun W h => HRTi.out W (bcj Y.z h))
          have HC10 : Hid (∀ W, Below W13.heap.size W13 W → W.cell? ⟨w10.heap.size, 0, none⟩ = some (.int .i64 ((i : Int) + 1))) := Lib.hid (fun W h => (HK11.out.on h).size)
          have z7 : IntKind.i64.wrap ((i : Int) + 1) = (i : Int) + 1 := IntWalk.i64_in _ (by have := HIN.out; have := HN70.out; omega)
          refine QTail.whole (fun W => Below W13.heap.size W13 W) (by kernel_rfl) (by kernel_rfl) (Hash.belowD _) ?_
          (refine wpQuiet_step (fun K hK => ?_); go_simp; (first | refine hK _ ?_ | refine ⟨_, fun _ _ => rfl, hK _ ?_⟩); clear hK K)
          (refine wpQuiet_step (fun K hK => ?_); go_simp; (first | refine hK _ ?_ | refine ⟨_, fun _ _ => rfl, hK _ ?_⟩); clear hK K)
          (refine wpQuiet_step (fun K hK => ?_); go_simp; (first | refine hK _ ?_ | refine ⟨_, fun _ _ => rfl, hK _ ?_⟩); clear hK K)
          (refine wpQuiet_step (fun K hK => ?_); go_simp; (first | refine hK _ ?_ | refine ⟨_, fun _ _ => rfl, hK _ ?_⟩); clear hK K)
          (refine wpQuiet_step (fun K hK => ?_); go_simp; (first | refine hK _ ?_ | refine ⟨_, fun _ _ => rfl, hK _ ?_⟩); clear hK K)
          (refine wpQuiet_step (fun K hK => ?_); go_simp; (first | refine hK _ ?_ | refine ⟨_, fun _ _ => rfl, hK _ ?_⟩); clear hK K)
          (refine wpQuiet_step (fun K hK => ?_); go_simp; (first | refine hK _ ?_ | refine ⟨_, fun _ _ => rfl, hK _ ?_⟩); clear hK K)
          (refine wpQuiet_step (fun K hK => ?_); go_simp; (first | refine hK _ ?_ | refine ⟨_, fun _ _ => rfl, hK _ ?_⟩); clear hK K)
          (refine wpQuiet_step (fun K hK => ?_); go_simp; (first | refine hK _ ?_ | refine ⟨_, fun _ _ => rfl, hK _ ?_⟩); clear hK K)
          (refine wpQuiet_step (fun K hK => ?_); go_simp; (first | refine hK _ ?_ | refine ⟨_, fun _ _ => rfl, hK _ ?_⟩); clear hK K)
          (refine wpQuiet_step (fun K hK => ?_); go_simp; (first | refine hK _ ?_ | refine ⟨_, fun _ _ => rfl, hK _ ?_⟩); clear hK K)
          (refine wpQuiet_step (fun K hK => ?_); go_simp; refine ⟨.pointer (some ⟨w10.heap.size, 0, none⟩), fun W hW => ?_, hK _ ?_⟩; (first | (rw [if_pos (by omega)]; exact ⟨rfl, rfl⟩) | (rw [if_pos (by omega)]; rfl) | exact ⟨rfl, rfl⟩ | rfl); clear hK K)
          (refine wpQuiet_step (fun K hK => ?_); go_simp; refine ⟨(.int .i64 ((i : Int) + 1)), fun W hW => ?_, hK _ ?_⟩; (first | (rw [HC10.out W hW]; exact ⟨rfl, rfl⟩) | (rw [HC10.out W hW]; rfl)); clear hK K)
          (refine wpQuiet_step (fun K hK => ?_); go_simp; (first | refine hK _ ?_ | refine ⟨_, fun _ _ => rfl, hK _ ?_⟩); clear hK K)
          (refine wpQuiet_step (fun K hK => ?_); go_simp; (first | refine hK _ ?_ | refine ⟨_, fun _ _ => rfl, hK _ ?_⟩); clear hK K)
          (refine wpQuiet_step (fun K hK => ?_); go_simp; (first | refine hK _ ?_ | refine ⟨_, fun _ _ => rfl, hK _ ?_⟩); clear hK K)
          (refine wpQuiet_step (fun K hK => ?_); go_simp; (first | refine hK _ ?_ | refine ⟨_, fun _ _ => rfl, hK _ ?_⟩); clear hK K)
          (refine wpQuiet_step (fun K hK => ?_); go_simp; (first | refine hK _ ?_ | refine ⟨_, fun _ _ => rfl, hK _ ?_⟩); clear hK K)
          refine QTail.loadC (by rfl) 29 (.tmp 12) rfl w12.heap.size 0 rfl (R.map bv) _ (fun W h => (HD13.out.on h).range) und_d rfl (info_d HRLi.out) ?_
          (refine wpQuiet_step (fun K hK => ?_); go_simp; (first | refine hK _ ?_ | refine ⟨_, fun _ _ => rfl, hK _ ?_⟩); clear hK K)
          (refine wpQuiet_step (fun K hK => ?_); go_simp; (first | refine hK _ ?_ | refine ⟨_, fun _ _ => rfl, hK _ ?_⟩); clear hK K)
          (refine wpQuiet_step (fun K hK => ?_); go_simp; refine ⟨(.slice (some ⟨b, ob, none⟩) i c), fun W hW => ?_, hK _ ?_⟩; (first | exact ⟨rfl, rfl⟩ | rfl | (rw [if_pos (by omega)]; exact ⟨rfl, rfl⟩) | (rw [if_pos (by omega), if_neg (by omega)]; exact ⟨rfl, rfl⟩) | (rw [if_neg (by omega)]; exact ⟨rfl, rfl⟩)); clear hK K)
          (refine wpQuiet_step (fun K hK => ?_); go_simp; refine ⟨_, fun W hW => (HRX.out W hW).mono fun e w' ⟨he, hb⟩ => ⟨he, hW.trans (hb.mono hW.size)⟩, hK _ ?_⟩; clear hK K)
          have e2 := E2.out
          (refine wpQuiet_step (fun K hK => ?_); go_simp; (first | refine hK _ ?_ | refine ⟨_, fun _ _ => rfl, hK _ ?_⟩); clear hK K)
          (refine wpQuiet_step (fun K hK => ?_); go_simp; (first | refine hK _ ?_ | refine ⟨_, fun _ _ => rfl, hK _ ?_⟩); clear hK K)
          refine wpQuiet_nil ?_
          clear e2 z7
          intro W14 hb14
          replace HK9 := Lib.hid (HK9.out.on hb14)
          replace HO9 := Lib.hid (HO9.out.on hb14)
          replace Y := Y.on hb14
          clear hb14
          go_wp2_with (first
            | (refine load_k 74 rfl rfl _ rfl wr.heap.size rfl HK9.out ?_)
            | (refine store_k (.tmp 6) (.tmp 74) rfl rfl g2 rfl (n := (i : Int) + 1) (A := B8) (k := q8) (c := c8) rfl Y.k.arr.there ?_; refine Hash.gen_world (Pq := fun W => Sg w W o (some ⟨b, ob, none⟩) n c l g2 (i + 1) B8 q8 c8) (G := fun W => wpList _ _ _ _ _ W) (Y.put (i' := i + 1) HO9.out) ?_; clear Y; intro W15 Y))
          go_roundw
          case rel => exact ⟨i + 1, B8, q8, c8, Nat.succ_le_of_lt HIN.out, by go_num, Y⟩
          case measure => simp [intOf]; omega
      · have z3 : ¬ (i : Int) < (n : Int) := by omega
        obtain rfl : n = i := by omega
        have htk : l.take n = l := List.take_of_length_le (by rw [HLN.out]; exact Nat.le_refl _)
        have HTK := Lib.hid htk
        obtain ⟨R, hR⟩ : ∃ R, R = root HH l := ⟨_, rfl⟩
        have HTPn : Hid (∀ W B q e, LiesD W W.heap.size B q e (Mk.pk HH (l.take n)) → Below w.heap.size w W → Calls Tryd.prog 29 #[pkv (n : Int) B q e] W (GivesZ R 0 W)) := Lib.hid (fun W B q e hL hz => by
          have h1 := HTP.out W n B q e (Nat.le_refl _) hL hz
          rw [htk, ← hR] at h1
          exact h1)
        have HRTn : Hid (∀ W, Below w.heap.size w W → Calls Tryd.prog 16 #[.slice A n c] W (Hash.GivesA (R.map bv) W)) := Lib.hid (fun W hz => by
          have h1 := HRT.out n W (Nat.le_refl _) (HL0.out W hz) hz
          rw [htk, ← hR] at h1
          exact h1)
        have HRLn : Hid (R.length = 16) := Lib.hid (by rw [hR]; exact root_length _)
        have HSP : Hid (∀ W A2 m2 c2, LiesD W W.heap.size B q e (Mk.pk HH (l.take n)) → LiesD W W.heap.size A2 m2 c2 (Mk.pk HH l) → Calls Tryd.prog 30 #[.agg #[.int .i64 (n : Int), .slice B q e], pkv (n : Int) A2 m2 c2] W (GivesT true W)) := Lib.hid (fun W A2 m2 c2 h1 h2 => by
          rw [htk] at h1
          have h := refSamePeaks_any n n B A2 q e m2 c2 _ _ W h1 h2
          rw [decide_eq_true rfl, show ((n : Int) == (n : Int)) = true by simp] at h
          exact h)
        have E1 := Lib.hid (fun W => eql_d R R HRLn.out HRLn.out W)
        rw [show (R == R) = true by simp] at E1
        clear htk hR hi
        go_wp2_with (first
          | (refine load_k 76 rfl rfl _ rfl g2 rfl (n := (n : Int)) Y.k ?_)
          | (go_at_call 29; (with_reducible refine (HTPn.out _ B q e Y.roots Y.z).mono ?_); rintro e4 w16 ⟨rfl, hb⟩; replace Y := Y.on hb; clear hb)
          | (refine store_d (.tmp 14) (.tmp 78) rfl rfl w16.heap.size 0 rfl R rfl HRLn.out (dg_zero w16 _).there ?_; refine Hash.gen_world (Pq := fun W => Below w16.heap.size w16 W ∧ Dg W w16.heap.size R) (G := fun W => wpList _ _ _ _ _ W) (d_new w16 HRLn.out _) ?_; intro W17 h17; replace Y := Y.on h17.1; have HD17 := Lib.hid h17.2; clear h17))
        have Y2 : Sh w W17 o A n c l g2 n B q e W17 := ⟨Y, Below.refl _ _⟩
        clear Y
        have Y := Y2.on (Hash.belowD _)
        clear Y2
        refine RegC.region (fun W => Sh w W o A n c l g2 n B q e W17) [3, 4] (by kernel_rfl) ?_
        (refine RegC.take (i := 1) (v := ?_) rfl (by kernel_rfl) (by kernel_rfl) (by kernel_rfl) (by kernel_rfl) (by kernel_rfl) (fun _ _ _ h => h) (Or.inl ⟨by rfl, ?_⟩) Y ?_; rotate_left 1; focus (intro W hW; go_simp; try (first | with_reducible rfl | (rw [if_pos (by omega)]; done) | (rw [if_pos (by omega), if_neg (by omega)]; done) | (rw [if_neg (by omega)]; done))))
        refine RegC.take (i := 0) (v := .agg #[.int .i64 (n : Int), .slice B q e]) rfl (by kernel_rfl) (by kernel_rfl) (by kernel_rfl) (by kernel_rfl) (by kernel_rfl) (fun _ _ _ h => h) (Or.inl ⟨by rfl, fun W hW => ?_⟩) Y ?_
        · obtain ⟨dd, h1, h2⟩ := und_k
          exact exec_row 56 (.tmp 6) rfl g2 0 rfl [.int .i64 (n : Int), .slice B q e] dd hW.s.k.arr.range h1 h2 (info_k _ _ _ _)
        refine RegC.ready (rs := [2]) (by kernel_rfl) (by simp) ?_
        refine RegC.cons rfl (fun K hK => ?_) RegC.nil
        go_simp
        go_wp2_with (first
          | (go_at_call 31; (with_reducible refine (HPK.out _ Y.s.more Y.s.z).mono ?_); rintro e5 w18 ⟨A18, m18, c18, rfl, ho, hb⟩; obtain ⟨A18', c18', e18, hL⟩ := ho.form; cases e18; have HL18 := Lib.hid hL; replace Y := Y.on hb; clear hb ho hL))
        refine ⟨fun _ => Y, ?_⟩
        refine RegC.rest (by kernel_rfl) ?_
        refine wpAny_tail 3 2 rfl (by kernel_rfl) ?_
        simp only [List.drop_succ_cons, List.drop_zero]
        go_wp2_with (first
          | (go_at_call 30; (with_reducible refine (HSP.out _ A18 m18 c18 Y.s.roots HL18.out).mono ?_); rintro e6 w19 ⟨rfl, hb⟩; replace Y := Y.on hb; clear hb HL18))
        have HRX : Hid (∀ W, Sh w W o A n c l g2 n B q e W17 → Calls Tryd.prog 16 #[.slice A n c] W (Hash.GivesA (R.map bv) W)) := Lib.hid (fun W h => HRTn.out W h.s.z)
        refine QTail.whole (fun W => Sh w W o A n c l g2 n B q e W17) (by kernel_rfl) (by kernel_rfl) (Y.on (Hash.belowD _)) ?_
        (refine wpQuiet_step (fun K hK => ?_); go_simp; (first | refine hK _ ?_ | refine ⟨_, fun _ _ => rfl, hK _ ?_⟩); clear hK K)
        (refine wpQuiet_step (fun K hK => ?_); go_simp; (first | refine hK _ ?_ | refine ⟨_, fun _ _ => rfl, hK _ ?_⟩); clear hK K)
        (refine wpQuiet_step (fun K hK => ?_); go_simp; (first | refine hK _ ?_ | refine ⟨_, fun _ _ => rfl, hK _ ?_⟩); clear hK K)
        (refine wpQuiet_step (fun K hK => ?_); go_simp; (first | refine hK _ ?_ | refine ⟨_, fun _ _ => rfl, hK _ ?_⟩); clear hK K)
        (refine wpQuiet_step (fun K hK => ?_); go_simp; (first | refine hK _ ?_ | refine ⟨_, fun _ _ => rfl, hK _ ?_⟩); clear hK K)
        (refine wpQuiet_step (fun K hK => ?_); go_simp; (first | refine hK _ ?_ | refine ⟨_, fun _ _ => rfl, hK _ ?_⟩); clear hK K)
        (refine wpQuiet_step (fun K hK => ?_); go_simp; (first | refine hK _ ?_ | refine ⟨_, fun _ _ => rfl, hK _ ?_⟩); clear hK K)
        (refine wpQuiet_step (fun K hK => ?_); go_simp; (first | refine hK _ ?_ | refine ⟨_, fun _ _ => rfl, hK _ ?_⟩); clear hK K)
        (refine wpQuiet_step (fun K hK => ?_); go_simp; (first | refine hK _ ?_ | refine ⟨_, fun _ _ => rfl, hK _ ?_⟩); clear hK K)
        refine QTail.loadC (by rfl) 29 (.tmp 14) rfl w16.heap.size 0 rfl (R.map bv) _ (fun W h => (HD17.out.on h.far).range) und_d rfl (info_d HRLn.out) ?_
        (refine wpQuiet_step (fun K hK => ?_); go_simp; (first | refine hK _ ?_ | refine ⟨_, fun _ _ => rfl, hK _ ?_⟩); clear hK K)
        (refine wpQuiet_step (fun K hK => ?_); go_simp; refine ⟨_, fun W hW => (HRX.out W hW).mono fun e w' ⟨he, hb⟩ => ⟨he, hW.on hb⟩, hK _ ?_⟩; clear hK K)
        have e1 := E1.out
        (refine wpQuiet_step (fun K hK => ?_); go_simp; (first | refine hK _ ?_ | refine ⟨_, fun _ _ => rfl, hK _ ?_⟩); clear hK K)
        (refine wpQuiet_step (fun K hK => ?_); go_simp; (first | refine hK _ ?_ | refine ⟨_, fun _ _ => rfl, hK _ ?_⟩); clear hK K)
        (refine wpQuiet_step (fun K hK => ?_); go_simp; (first | refine hK _ ?_ | refine ⟨_, fun _ _ => rfl, hK _ ?_⟩); clear hK K)
        refine wpQuiet_nil ?_
        clear e1 Y
        intro w20 Y
        go_wp2
        go_ret
        exact ⟨rfl, Y.s.z⟩
end Mk
end Go.Proofs.YtlnnognknalehaaDoor
