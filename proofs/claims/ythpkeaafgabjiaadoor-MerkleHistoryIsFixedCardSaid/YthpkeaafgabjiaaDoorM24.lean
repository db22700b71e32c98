/- MGro; MRts: what each of these parts proves stands ahead of it. -/
import Derived.Test.YthpkeaafgabjiaaDoorM23
import Derived.Test.YthpkeaafgabjiaaDoorM20
/- The package merkle: the parts of a prefix proof. Condition: the number of elements lies in the part. -/
namespace Go.Proofs.YthpkeaafgabjiaaDoor
open Go.RowKit
namespace Mk
open Hash (bcj)

set_option maxRecDepth 100000 in
set_option maxHeartbeats 8000000 in
theorem growth_any : ∀ (n a b i : Nat) (w : World), b - a = n → b ≤ 9223372036854775807 → a < i → i ≤ b →
    Calls Tryd.prog 37 #[ptv a b, .int .i64 (i : Int)] w (GivesS (grow a b i) w) := by
  intro n
  induction n using Nat.strongRecOn with
  | _ n ih =>
    intro a b i w hn hb hai hib
    have HN := Lib.hid (ownP_nil w w.heap.size)
    have HP := Lib.hid (pt_new w a b 69)
    have Z := Wire.b1 w (.cells #[.int .i64 (a : Int), .int .i64 (b : Int)] 69)
    by_cases h0 : b = i
    · subst h0
      by_cases hz : a = 0
      · subst hz
        rw [grow_whole]
        have HN2 := Lib.hid (HN.out.on Z)
        clear ih hn hai hib HN HP
        unfold ptv
        go_enter Tryd.func37, Tryd.ntmps37
        go_wp2
        go_ret
        exact ⟨_, _, rfl, HN2.out, Z⟩
      · rw [grow_part hz]
        have y0 : ¬ (a : Int) = 0 := by omega
        have y1 : ((a : Int) == 0) = false := by simpa using y0
        have HL := Lib.hid (own_litP (w.alloc (.cells #[.int .i64 (a : Int), .int .i64 (b : Int)] 69)) a b Z.size)
        have HZ := Lib.hid (bcj Z (Wire.b1 _ (.cells #[.int .i64 (a : Int), .int .i64 (b : Int)] 69)))
        clear ih hn hai hib HN Z hz
        unfold ptv
        go_enter Tryd.func37, Tryd.ntmps37
        go_wp2_with (refine load_pt 22 rfl rfl (.tmp 2) rfl w.heap.size 0 rfl a b HP.out.range ?_; unfold ptv)
        rw [Wire.size_alloc] at HL
        go_ret
        exact ⟨_, _, rfl, HL.out, HZ.out⟩
    have h2 : 2 ≤ b - a := by omega
    have y1 : ¬ (b : Int) = (i : Int) := by omega
    have y2 : ((b : Int) == (i : Int)) = false := by simpa using y1
    have hs1 := split_lt h2
    have hs2 := split_pos (b - a)
    obtain ⟨k, hk⟩ : ∃ k, k = a + split (b - a) := ⟨_, rfl⟩
    have HSP := Lib.hid (fun W => split_any a b k h2 hb hk W)
    have HLN : Hid ((grow a b i).length ≤ 64) := Lib.hid (grow_length 63 a b i (by have : (2 : Nat) ^ 63 = 9223372036854775808 := by decide
                                                                                   omega))
    by_cases hlow : i ≤ k
    · have hL := grow_low (lo := a) (hi := b) (m := i) h0 h2 (by rw [← hk]; exact hlow)
      rw [← hk] at hL
      rw [hL] at HLN ⊢
      have HC : Hid (∀ W, Calls Tryd.prog 37 #[.agg #[.int .i64 (a : Int), .int .i64 (k : Int)], .int .i64 (i : Int)] W (GivesS (grow a k i) W)) := Lib.hid (fun W => ih (k - a) (by omega) a k i W rfl (by omega) (by omega) (by omega))
      have z0 : (i : Int) ≤ (k : Int) := by omega
      generalize grow a k i = L at *
      have HPL : Hid (∀ v m W B, OwnP W B v m L → m ≤ 1099511627776) := Lib.hid (fun v m W B h => by have h3 := h.len; have h4 := HLN.out; simp at h4; omega)
      generalize b - a = q at *
      clear ih hn h0 hai hib HN hL hs1 hs2 hk h2 HLN hb
      unfold ptv at HSP ⊢
      go_enter Tryd.func37, Tryd.ntmps37
      go_wp2_with (first
        | (refine load_pt 25 rfl rfl (.tmp 2) rfl w.heap.size 0 rfl a b HP.out.range ?_; unfold ptv)
        | (go_at_call 58; (with_reducible refine (HSP.out _).mono ?_); rintro e w3 ⟨rfl, hb⟩; unfold ptv; replace Z := bcj Z hb; clear hb; have HTN := Lib.hid (two_new w3 a k b 69))
        | (refine store_pt (.tmp 5) (.tmp 27) rfl rfl w3.heap.size 0 rfl a k rfl HTN.out.1 ?_)
        | (refine store_pt (.tmp 6) (.tmp 28) rfl rfl (w3.heap.size + 1) 0 rfl k b rfl HTN.out.2.1 ?_; refine Hash.gen_world (Pq := fun W => Sc w W w3.heap.size a k b) (G := fun W => wpList _ _ _ _ _ W) ⟨HTN.out.2.2.1, HTN.out.2.2.2.1, bcj Z HTN.out.2.2.2.2⟩ ?_; clear Z HTN; intro w5 Y; have c5 := Y.l.hi))
      clear c5
      revert Y
      generalize w3.heap.size = g
      intro Y
      refine RegC.region (fun W => Sc w W g a k b) [5, 6] (by kernel_rfl) ?_
      replace Y := Y.on (Hash.belowD _)
      (refine RegC.take (i := 0) (v := (ptv a k)) rfl (by kernel_rfl) (by kernel_rfl) (by kernel_rfl) (by kernel_rfl) (by kernel_rfl) (fun _ _ _ h => h) (Or.inl ⟨by rfl, fun W hW => ?_⟩) Y ?_; focus (exact (by obtain ⟨_, hu, hd⟩ := row_pt; exact RegC.exec_rowC 69 (.tmp 5) rfl (g) 0 (by go_simp) _ _ hW.l.range hu hd (info_pt _ _))))
      (refine RegC.take (i := 1) (v := ?_) rfl (by kernel_rfl) (by kernel_rfl) (by kernel_rfl) (by kernel_rfl) (by kernel_rfl) (fun _ _ _ h => h) (Or.inl ⟨by rfl, ?_⟩) Y ?_; rotate_left 1; focus (intro W hW; go_simp; try (first | with_reducible rfl | (rw [if_pos (by omega)]; done) | (rw [if_pos (by omega), if_neg (by omega)]; done) | (rw [if_neg (by omega)]; done))))
      (refine RegC.take (i := 3) (v := (ptv k b)) rfl (by kernel_rfl) (by kernel_rfl) (by kernel_rfl) (by kernel_rfl) (by kernel_rfl) (fun _ _ _ h => h) (Or.inl ⟨by rfl, fun W hW => ?_⟩) Y ?_; focus (exact (by obtain ⟨_, hu, hd⟩ := row_pt; exact RegC.exec_rowC 69 (.tmp 6) rfl (g + 1) 0 (by go_simp) _ _ hW.r.range hu hd (info_pt _ _))))
      refine RegC.ready (rs := [2, 4]) (by kernel_rfl) (by simp) ?_
      refine RegC.cons rfl (fun K hK => ?_) ?_
      · go_simp
        unfold ptv
        go_wp2_with (go_at_call 37; (with_reducible refine (HC.out _).mono ?_); rintro e w4 ⟨v4, m4, rfl, ho, hb⟩; obtain ⟨A4, c4, rfl, -⟩ := ho.form; have HO := Lib.hid (ho.more Y.z.size); replace Y := Y.on hb; clear hb ho)
        refine ⟨fun _ => Y, ?_⟩
        refine RegC.ready (rs := [4]) (by kernel_rfl) (by simp) ?_
        refine RegC.cons rfl (fun K hK => ?_) RegC.nil
        go_simp
        refine hK _ _ ⟨fun _ => Y.on (Wire.b1 _ _), ?_⟩
        refine RegC.rest (by kernel_rfl) ?_
        refine wpAny_tail 5 2 rfl (by kernel_rfl) ?_
        simp only [List.drop_succ_cons, List.drop_zero]
        have Z := bcj Y.z (Wire.b1 w4 (.cells #[.int .i64 (k : Int), .int .i64 (b : Int)] 69))
        have HR := Lib.hid (pt_new w4 k b 69).range
        clear Y
        go_wp2_with (first
          | (at_builtin; refine append_p rfl (.tmp 35) (.tmp 37) rfl w.heap.size (.slice A4 m4 c4) m4 L rfl (HO.out.on (Wire.b1 _ _)) w4.heap.size rfl k b HR.out (HPL.out _ _ _ _ HO.out) Z.size ?_; intro v6 w6 ho6 hb6; have HO6 := Lib.hid ho6; replace Z := Z.trans hb6; clear ho6 hb6))
        go_ret
        exact ⟨_, _, rfl, HO6.out, Z⟩
      · refine RegC.cons rfl (fun K hK => ?_) RegC.nil
        go_simp
        unfold ptv
        refine hK _ _ ⟨fun _ => Y.on (Wire.b1 _ _), ?_⟩
        have HR0 := pt_new w5.drew k b 69
        have hsz : w5.drew.heap.size = w5.heap.size := rfl
        rw [hsz] at HR0
        refine Hash.gen_world (Pq := fun W => Sc w W g a k b ∧ Pt W w5.heap.size k b) (G := fun W => RegC.anyT _ _ _ _ _ _ _ _ _ W) ⟨Y.on (Wire.b1 _ _), HR0⟩ ?_
        clear Y HR0 hsz
        intro w6 Y6
        obtain ⟨Y, hr0⟩ := Y6
        have HR0 := Lib.hid hr0
        clear hr0
        refine RegC.ready (rs := [2]) (by kernel_rfl) (by simp) ?_
        refine RegC.cons rfl (fun K hK => ?_) RegC.nil
        go_simp
        go_wp2_with (go_at_call 37; (with_reducible refine (HC.out _).mono ?_); rintro e w4 ⟨v4, m4, rfl, ho, hb⟩; obtain ⟨A4, c4, rfl, -⟩ := ho.form; have HO := Lib.hid (ho.more Y.z.size); have HR := Lib.hid (HR0.out.on hb).range; replace Y := Y.on hb; clear hb ho)
        refine ⟨fun _ => Y, ?_⟩
        refine RegC.rest (by kernel_rfl) ?_
        refine wpAny_tail 5 2 rfl (by kernel_rfl) ?_
        simp only [List.drop_succ_cons, List.drop_zero]
        have Z := Y.z
        clear Y
        go_wp2_with (first
          | (at_builtin; refine append_p rfl (.tmp 35) (.tmp 37) rfl w.heap.size (.slice A4 m4 c4) m4 L rfl HO.out w5.heap.size rfl k b HR.out (HPL.out _ _ _ _ HO.out) Z.size ?_; intro v6 w6 ho6 hb6; have HO6 := Lib.hid ho6; replace Z := Z.trans hb6; clear ho6 hb6))
        go_ret
        exact ⟨_, _, rfl, HO6.out, Z⟩
    · have hL := grow_high (lo := a) (hi := b) (m := i) h0 h2 (by rw [← hk]; exact hlow)
      rw [← hk] at hL
      rw [hL] at HLN ⊢
      have HC : Hid (∀ W, Calls Tryd.prog 37 #[.agg #[.int .i64 (k : Int), .int .i64 (b : Int)], .int .i64 (i : Int)] W (GivesS (grow k b i) W)) := Lib.hid (fun W => ih (b - k) (by omega) k b i W rfl (by omega) (by omega) (by omega))
      have z0 : ¬ (i : Int) ≤ (k : Int) := by omega
      generalize grow k b i = L at *
      have HPL : Hid (∀ v m W B, OwnP W B v m L → m ≤ 1099511627776) := Lib.hid (fun v m W B h => by have h3 := h.len; have h4 := HLN.out; simp at h4; omega)
      generalize b - a = q at *
      clear ih hn h0 hai hib HN hL hs1 hs2 hk h2 HLN hb
      unfold ptv at HSP ⊢
      go_enter Tryd.func37, Tryd.ntmps37
      go_wp2_with (first
        | (refine load_pt 25 rfl rfl (.tmp 2) rfl w.heap.size 0 rfl a b HP.out.range ?_; unfold ptv)
        | (go_at_call 58; (with_reducible refine (HSP.out _).mono ?_); rintro e w3 ⟨rfl, hb⟩; unfold ptv; replace Z := bcj Z hb; clear hb; have HTN := Lib.hid (two_new w3 a k b 69))
        | (refine store_pt (.tmp 5) (.tmp 27) rfl rfl w3.heap.size 0 rfl a k rfl HTN.out.1 ?_)
        | (refine store_pt (.tmp 6) (.tmp 28) rfl rfl (w3.heap.size + 1) 0 rfl k b rfl HTN.out.2.1 ?_; refine Hash.gen_world (Pq := fun W => Sc w W w3.heap.size a k b) (G := fun W => wpList _ _ _ _ _ W) ⟨HTN.out.2.2.1, HTN.out.2.2.2.1, bcj Z HTN.out.2.2.2.2⟩ ?_; clear Z HTN; intro w5 Y; have c5 := Y.l.hi))
      clear c5
      revert Y
      generalize w3.heap.size = g
      intro Y
      refine RegC.region (fun W => Sc w W g a k b) [5, 6] (by kernel_rfl) ?_
      replace Y := Y.on (Hash.belowD _)
      (refine RegC.take (i := 0) (v := (ptv k b)) rfl (by kernel_rfl) (by kernel_rfl) (by kernel_rfl) (by kernel_rfl) (by kernel_rfl) (fun _ _ _ h => h) (Or.inl ⟨by rfl, fun W hW => ?_⟩) Y ?_; focus (exact (by obtain ⟨_, hu, hd⟩ := row_pt; exact RegC.exec_rowC 69 (.tmp 6) rfl (g + 1) 0 (by go_simp) _ _ hW.r.range hu hd (info_pt _ _))))
      (refine RegC.take (i := 1) (v := ?_) rfl (by kernel_rfl) (by kernel_rfl) (by kernel_rfl) (by kernel_rfl) (by kernel_rfl) (fun _ _ _ h => h) (Or.inl ⟨by rfl, ?_⟩) Y ?_; rotate_left 1; focus (intro W hW; go_simp; try (first | with_reducible rfl | (rw [if_pos (by omega)]; done) | (rw [if_pos (by omega), if_neg (by omega)]; done) | (rw [if_neg (by omega)]; done))))
      (refine RegC.take (i := 3) (v := (ptv a k)) rfl (by kernel_rfl) (by kernel_rfl) (by kernel_rfl) (by kernel_rfl) (by kernel_rfl) (fun _ _ _ h => h) (Or.inl ⟨by rfl, fun W hW => ?_⟩) Y ?_; focus (exact (by obtain ⟨_, hu, hd⟩ := row_pt; exact RegC.exec_rowC 69 (.tmp 5) rfl (g) 0 (by go_simp) _ _ hW.l.range hu hd (info_pt _ _))))
      refine RegC.ready (rs := [2, 4]) (by kernel_rfl) (by simp) ?_
      refine RegC.cons rfl (fun K hK => ?_) ?_
      · go_simp
        unfold ptv
        go_wp2_with (go_at_call 37; (with_reducible refine (HC.out _).mono ?_); rintro e w4 ⟨v4, m4, rfl, ho, hb⟩; obtain ⟨A4, c4, rfl, -⟩ := ho.form; have HO := Lib.hid (ho.more Y.z.size); replace Y := Y.on hb; clear hb ho)
        refine ⟨fun _ => Y, ?_⟩
        refine RegC.ready (rs := [4]) (by kernel_rfl) (by simp) ?_
        refine RegC.cons rfl (fun K hK => ?_) RegC.nil
        go_simp
        refine hK _ _ ⟨fun _ => Y.on (Wire.b1 _ _), ?_⟩
        refine RegC.rest (by kernel_rfl) ?_
        refine wpAny_tail 5 2 rfl (by kernel_rfl) ?_
        simp only [List.drop_succ_cons, List.drop_zero]
        have Z := bcj Y.z (Wire.b1 w4 (.cells #[.int .i64 (a : Int), .int .i64 (k : Int)] 69))
        have HR := Lib.hid (pt_new w4 a k 69).range
        clear Y
        go_wp2_with (first
          | (at_builtin; refine append_p rfl (.tmp 41) (.tmp 43) rfl w.heap.size (.slice A4 m4 c4) m4 L rfl (HO.out.on (Wire.b1 _ _)) w4.heap.size rfl a k HR.out (HPL.out _ _ _ _ HO.out) Z.size ?_; intro v6 w6 ho6 hb6; have HO6 := Lib.hid ho6; replace Z := Z.trans hb6; clear ho6 hb6))
        go_ret
        exact ⟨_, _, rfl, HO6.out, Z⟩
      · refine RegC.cons rfl (fun K hK => ?_) RegC.nil
        go_simp
        unfold ptv
        refine hK _ _ ⟨fun _ => Y.on (Wire.b1 _ _), ?_⟩
        have HR0 := pt_new w5.drew a k 69
        have hsz : w5.drew.heap.size = w5.heap.size := rfl
        rw [hsz] at HR0
        refine Hash.gen_world (Pq := fun W => Sc w W g a k b ∧ Pt W w5.heap.size a k) (G := fun W => RegC.anyT _ _ _ _ _ _ _ _ _ W) ⟨Y.on (Wire.b1 _ _), HR0⟩ ?_
        clear Y HR0 hsz
        intro w6 Y6
        obtain ⟨Y, hr0⟩ := Y6
        have HR0 := Lib.hid hr0
        clear hr0
        refine RegC.ready (rs := [2]) (by kernel_rfl) (by simp) ?_
        refine RegC.cons rfl (fun K hK => ?_) RegC.nil
        go_simp
        go_wp2_with (go_at_call 37; (with_reducible refine (HC.out _).mono ?_); rintro e w4 ⟨v4, m4, rfl, ho, hb⟩; obtain ⟨A4, c4, rfl, -⟩ := ho.form; have HO := Lib.hid (ho.more Y.z.size); have HR := Lib.hid (HR0.out.on hb).range; replace Y := Y.on hb; clear hb ho)
        refine ⟨fun _ => Y, ?_⟩
        refine RegC.rest (by kernel_rfl) ?_
        refine wpAny_tail 5 2 rfl (by kernel_rfl) ?_
        simp only [List.drop_succ_cons, List.drop_zero]
        have Z := Y.z
        clear Y
        go_wp2_with (first
          | (at_builtin; refine append_p rfl (.tmp 41) (.tmp 43) rfl w.heap.size (.slice A4 m4 c4) m4 L rfl HO.out w5.heap.size rfl a k HR.out (HPL.out _ _ _ _ HO.out) Z.size ?_; intro v6 w6 ho6 hb6; have HO6 := Lib.hid ho6; replace Z := Z.trans hb6; clear ho6 hb6))
        go_ret
        exact ⟨_, _, rfl, HO6.out, Z⟩
end Mk
end Go.Proofs.YthpkeaafgabjiaaDoor

/- The package merkle: the roots of parts of a list. Conditions: the slices read as a list of digests and of parts of it, the tables are laid. -/
namespace Go.Proofs.YthpkeaafgabjiaaDoor
open Go.RowKit
namespace Mk
open Wire (bv sv Lies own_more)
open Hash (bcj)

def setM (xs : List Value) : Nat → List Value → List Value
  | _, [] => xs
  | o, v :: r => setM (xs.set o v) (o + 1) r
theorem setM_mid : ∀ (vs a z b : List Value), b.length = vs.length → setM (a ++ (b ++ z)) a.length vs = a ++ (vs ++ z)
  | [], a, z, b, h => by
    have : b = [] := List.eq_nil_of_length_eq_zero h
    subst this; rfl
  | v :: r, a, z, b, h => by
    cases b with
    | nil => simp at h
    | cons b0 b1 =>
      simp only [setM]
      have e : (a ++ (b0 :: b1 ++ z)).set a.length v = (a ++ [v]) ++ (b1 ++ z) := by simp
      have e2 : a.length + 1 = (a ++ [v]).length := by simp
      rw [e, e2, setM_mid r (a ++ [v]) z b1 (by simpa using h)]
      simp
theorem own_setM {base : Nat} {e : TypeId} {size g n c : Nat} : ∀ (vs : List Value) (o : Nat) (w : World) (xs : List Value), w.ownsRow base e size (.slice (some ⟨g, 0, none⟩) n c) n xs →
    (w.setCells g o vs).ownsRow base e size (.slice (some ⟨g, 0, none⟩) n c) n (setM xs o vs)
  | [], _, _, _, h => h
  | v :: r, o, w, xs, h => own_setM r (o + 1) (w.setCell ⟨g, o, none⟩ v) (xs.set o v) (h.stored o v).1
theorem own_thereM {w : World} {base : Nat} {e : TypeId} {size g n c : Nat} {xs : List Value} (h : w.ownsRow base e size (.slice (some ⟨g, 0, none⟩) n c) n xs) {o m : Nat} (ho : o + m ≤ n * size) : w.there g o m := by
  intro j hj
  refine ⟨?_, h.frozenAt _⟩
  rw [h.cellAt _ (by omega), List.getElem?_eq_getElem (by rw [h.1]; omega)]
  rfl
theorem own_fromM {w : World} {base : Nat} {e : TypeId} {size g n c : Nat} {xs : List Value} (h : w.ownsRow base e size (.slice (some ⟨g, 0, none⟩) n c) n xs) : base ≤ g ∧ g < w.heap.size := h.lt g rfl
/-- A digest is set in a row of one's own. -/
theorem own_setD {w : World} {base g n : Nat} {p q : List (List UInt8)} {d0 d : List UInt8} (h : OwnD w base (.slice (some ⟨g, 0, none⟩) n n) n (p ++ (d0 :: q))) (hd : d.length = 16) :
    OwnD (w.setCells g (p.length * 16) (d.map bv)) base (.slice (some ⟨g, 0, none⟩) n n) n (p ++ (d :: q)) := by
  have hp : Ok p := fun x hx => h.ok x (List.mem_append_left _ hx)
  have hq : Ok q := fun x hx => h.ok x (List.mem_append_right _ (List.mem_cons_of_mem _ hx))
  have h0 : d0.length = 16 := h.ok d0 (List.mem_append_right _ (List.mem_cons_self ..))
  have hc : ∀ x : List UInt8, cellsD (p ++ (x :: q)) = cellsD p ++ (x.map bv ++ cellsD q) := fun x => by rw [cellsD_append]; rfl
  refine ⟨?_, fun x hx => ?_⟩
  · have h1 := h.own
    rw [hc] at h1 ⊢
    have h2 := own_setM (d.map bv) (p.length * 16) w _ h1
    rw [← cellsD_length hp, setM_mid (d.map bv) (cellsD p) (cellsD q) (d0.map bv) (by simp [h0, hd])] at h2
    rw [← cellsD_length hp]
    exact h2
  · rcases List.mem_append.1 hx with hx | hx
    · exact hp x hx
    · rcases List.mem_cons.1 hx with rfl | hx
      · exact hd
      · exact hq x hx
theorem madeD (m : Nat) : (madeCells (dv zero).cells (m * 16)).toList = cellsD (List.replicate m zero) := by
  have hz : (dv zero).cells = Array.replicate 16 (Value.int .u8 0) := rfl
  have h1 : (madeCells (dv zero).cells (m * 16)).toList = List.replicate (m * 16) (Value.int .u8 0) := by
    apply List.ext_getElem?
    intro j
    by_cases hj : j < m * 16
    · have h16 : j % 16 < 16 := Nat.mod_lt _ (by omega)
      simp [madeCells, hj, hz, h16]
    · simp [madeCells, hj]
  rw [h1]
  induction m with
  | zero => rfl
  | succ m ih =>
    have : cellsD (List.replicate (m + 1) zero) = zero.map bv ++ cellsD (List.replicate m zero) := rfl
    rw [this, ← ih (by
      apply List.ext_getElem?
      intro j
      by_cases hj : j < m * 16
      · have h16 : j % 16 < 16 := Nat.mod_lt _ (by omega)
        simp [madeCells, hj, hz, h16]
      · simp [madeCells, hj])]
    rw [show (m + 1) * 16 = 16 + m * 16 by omega, ← List.replicate_append_replicate]
    rfl
theorem ok_zeros (m : Nat) : Ok (List.replicate m zero) := fun d hd => by rw [List.eq_of_mem_replicate hd]; rfl
/-- The roots of the first k parts, and zeros. -/
def rso (l : List (List UInt8)) (ps : List (Nat × Nat)) (k : Nat) : List (List UInt8) := rts HH l (ps.take k) ++ List.replicate (ps.length - k) zero
theorem rso_zero (l : List (List UInt8)) (ps : List (Nat × Nat)) : rso l ps 0 = List.replicate ps.length zero := by simp [rso, rts]
theorem rso_all (l : List (List UInt8)) (ps : List (Nat × Nat)) : rso l ps ps.length = rts HH l ps := by simp [rso]
theorem rso_next {l : List (List UInt8)} {ps : List (Nat × Nat)} {k : Nat} {p : Nat × Nat} (h : ps[k]? = some p) :
    rso l ps k = rts HH l (ps.take k) ++ (zero :: List.replicate (ps.length - (k + 1)) zero) ∧ rso l ps (k + 1) = rts HH l (ps.take k) ++ (root HH (cut l p.1 p.2) :: List.replicate (ps.length - (k + 1)) zero) ∧ (rts HH l (ps.take k)).length = k := by
  have hk : k < ps.length := (List.getElem?_eq_some_iff.1 h).1
  obtain ⟨d, hd⟩ : ∃ d, ps.length - k = d + 1 := ⟨ps.length - k - 1, by omega⟩
  refine ⟨?_, ?_, ?_⟩
  · unfold rso
    rw [hd, show ps.length - (k + 1) = d by omega, List.replicate_succ]
  · unfold rso
    rw [List.take_add_one, h]
    simp [rts]
  · simp [rts]; omega
/-- A new row, and all that was there. -/
structure Rr (w W : World) (n : Nat) (l : List (List UInt8)) : Prop where
  own : OwnD W w.heap.size (.slice (some ⟨w.heap.size, 0, none⟩) n n) n l
  z : Below w.heap.size w W
theorem Rr.on {w W W' : World} {n : Nat} {l : List (List UInt8)} (h : Rr w W n l) (hb : Below W.heap.size W W') : Rr w W' n l := ⟨h.own.on hb, bcj h.z hb⟩

set_option maxRecDepth 100000 in
set_option maxHeartbeats 2000000 in
theorem roots_any (l : List (List UInt8)) (ps : List (Nat × Nat)) (n c pn pc : Nat) (A PA : Option Addr) (w : World) (hl : LiesD w w.heap.size A n c l) (hp : Lies w w.heap.size 2 PA pn pc (cellsPt ps)) (hw : Within 0 n ps) (ht : TP w) (hpn : pn ≤ 1099511627776) :
    Calls Tryd.prog 34 #[.slice A n c, .slice PA pn pc] w (GivesO (rts HH l ps) w) := by
  obtain ⟨i0, hi, hz0, hz1, hz2⟩ := info_parts dig_info
  have hlen : ps.length = pn := by have := hp.len; rw [cellsPt_length] at this; omega
  have hln := hl.len
  have hmost : c ≤ 9223372036854775807 := by have := hl.lies.most; unfold maxLen at this; omega
  have hmost2 : pc ≤ 9223372036854775807 := by have := hp.most; unfold maxLen at this; omega
  have hle := hl.lies.le
  have hle2 := hp.le
  have HLN := Lib.hid hlen
  have HLL := Lib.hid hln
  have HTT := Lib.hid ht
  have HW := Lib.hid hw
  clear hlen hln ht hw
  go_enter Tryd.func34, Tryd.ntmps34
  go_wp2_with (first
    | (at_make; refine wpList_make_full _ rfl _ _ 22 rfl w.heap.size 29 i0 (dv zero) 16 Tryd.underlying22 hi hz0 hz1 .i64 .i64 _ _ pn rfl rfl rfl rfl (by rw [hz2]; omega) (by unfold maxLen; omega) (Nat.le_refl _) ?_; intro w1 hown1 hg1))
  have Y1 : Rr w w1 pn (rso l ps 0) := by
    rw [madeD] at hown1
    rw [rso_zero, HLN.out]
    exact ⟨⟨hown1, ok_zeros _⟩, (Below.refl _ _).grown hg1 (Nat.le_refl _) (fun p hp => by cases hp)⟩
  clear hown1 hg1
  go_wp2
  go_loopw [13] (fun jv wr => ∃ (k : Nat), k ≤ pn ∧ jv = .int .i64 (k : Int) ∧ Rr w wr pn (rso l ps k)) (fun jv _ => (pn - intOf jv).toNat)
  case atStart => exact ⟨0, by omega, rfl, Y1⟩
  case round =>
    obtain ⟨k, hk, rfl, Y⟩ := hrel
    clear Y1
    by_cases hkn : k < pn
    · obtain ⟨⟨lo, hi'⟩, hpk⟩ : ∃ p, ps[k]? = some p := ⟨_, List.getElem?_eq_getElem (by rw [HLN.out]; exact hkn)⟩
      obtain ⟨b, o, rfl, hb, hr⟩ := parts_row hp hpk
      obtain ⟨-, h1, h2⟩ := HW.out _ (List.mem_of_getElem? hpk)
      simp only at h1 h2 hr
      obtain ⟨d0, hd0⟩ : ∃ d, l[0]? = some d := ⟨_, List.getElem?_eq_getElem (by rw [HLL.out]; omega)⟩
      obtain ⟨b2, o2, rfl, -, -⟩ := hl.row hd0
      obtain ⟨e1, e2, e3⟩ := rso_next (l := l) hpk
      have HR : Hid (∀ W, Rr w W pn (rso l ps k) → W.rangeAt b (o + k * 2) (ptc lo hi')) := Lib.hid (fun W h i u hu => (World.cell?_of_block (h.z.block b hb)).trans (hr i u hu))
      have hcut := (hl.take h2).drop (b := b2) (o := o2) (k := lo) (by omega)
      have HRT : Hid (∀ W, Rr w W pn (rso l ps k) → Calls Tryd.prog 16 #[.slice (some ⟨b2, o2 + lo * 16, none⟩) (hi' - lo) (c - lo)] W (GivesD (root HH (cut l lo hi')) W)) := Lib.hid (fun W h => pRoot_any (hi' - lo) _ (c - lo) _ W ((hcut.below h.z).more h.z.size) (HTT.out.on h.z))
      have HDL := Lib.hid (root_length (cut l lo hi'))
      generalize root HH (cut l lo hi') = D at *
      have HST : Hid (∀ W, Rr w W pn (rso l ps k) → W.there w.heap.size (k * 16) 16 ∧ Rr w (W.setCells w.heap.size (k * 16) (D.map bv)) pn (rso l ps (k + 1))) := Lib.hid (fun W h => ⟨own_thereM h.own.own (by have : (k + 1) * 16 ≤ pn * 16 := Nat.mul_le_mul_right _ hkn; omega), by
        have h3 := h.own
        rw [e1] at h3
        have h4 := own_setD h3 HDL.out
        rw [e3] at h4
        rw [e2]
        exact ⟨h4, h.z.trans (Hash.below_cells (Nat.le_refl _) _ _ _)⟩⟩)
      have y0 : (0 : Int) ≤ (k : Int) := by omega
      have y1 : (k : Int) < (pn : Int) := by omega
      have z1 : (lo : Int) ≤ (hi' : Int) := by omega
      have z2 : (hi' : Int) ≤ (c : Int) := by omega
      have z3 : ¬ c = lo := by omega
      clear hpk hb hr hd0 e1 e2 e3 hcut hl hp hi hz0 hz1 hz2
      go_wp2_with (first
        | (refine load_pt 17 rfl rfl (.tmp 16) rfl b (o + k * 2) rfl lo hi' (HR.out _ Y) ?_; unfold ptv)
        | (refine store_pt (.tmp 7) (.tmp 17) rfl rfl wr.heap.size 0 rfl lo hi' rfl (pt_new wr 0 0 _).there ?_; refine Hash.gen_world (Pq := fun W => Rr w W pn (rso l ps k) ∧ Pt W wr.heap.size lo hi') (G := fun W => wpList _ _ _ _ _ W) ⟨Y.on ((Wire.b1 _ _).trans (Hash.below_cells (Nat.le_refl _) _ _ _)), (pt_new wr 0 0 _).put⟩ ?_; clear Y HR; intro w5 Y5; obtain ⟨Y, hp5⟩ := Y5; have c5 := hp5.lo; have c6 := hp5.hi; clear hp5)
        | (go_at_call 16; (with_reducible refine (HRT.out _ Y).mono ?_); rintro e w6 ⟨rfl, hb⟩; unfold dv; replace Y := Y.on hb; clear hb c5 c6)
        | (refine store_d (.tmp 27) (.tmp 26) rfl rfl w.heap.size (k * 16) rfl D rfl HDL.out (HST.out _ Y).1 ?_; refine Hash.gen_world (Pq := fun W => Rr w W pn (rso l ps (k + 1))) (G := fun W => wpList _ _ _ _ _ W) (HST.out _ Y).2 ?_; clear Y HST; intro w7 Y))
      go_roundw
      case rel => exact ⟨k + 1, by omega, by go_num, Y⟩
      case measure => simp [intOf]; omega
    · obtain rfl : k = pn := by omega
      have y1 : ¬ ((k : Nat) : Int) < (k : Int) := by omega
      have HO : Hid (OwnD wr w.heap.size (.slice (some ⟨w.heap.size, 0, none⟩) k k) k (rts HH l ps) ∧ Below w.heap.size w wr) := Lib.hid (by
        have h := Y.own
        rw [← HLN.out, rso_all] at h
        rw [HLN.out] at h
        exact ⟨h, Y.z⟩)
      clear Y hl hp hi hz0 hz1 hz2
      go_wp2
      go_ret
      exact ⟨_, _, rfl, HO.out.1, HO.out.2⟩
end Mk
end Go.Proofs.YthpkeaafgabjiaaDoor

