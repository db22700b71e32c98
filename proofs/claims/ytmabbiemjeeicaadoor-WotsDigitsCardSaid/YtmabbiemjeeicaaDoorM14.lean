/- WoS; WoC: what each of these parts proves stands ahead of it. -/
import Derived.Test.YtmabbiemjeeicaaDoorM13
import Derived.Test.YtmabbiemjeeicaaDoorZKDer
import Derived.Test.YtmabbiemjeeicaaDoorZWoA
/- The package wots: start. Conditions: the seed has at most 1000 bytes; the table is laid. -/
namespace Go.Proofs.YtmabbiemjeeicaaDoor
open Go.RowKit
namespace Wo
open Mk (dv Dg GivesD dg_new dg_zero dg_end store_d load_d und_d info_d one_d info_dA)
open Wire (bv sv Lies enc Made)
open Hash (Table GivesT tabj bcj ofDig Arr at_slot)

/-- A text becomes bytes of one's own. -/
theorem wpList_conv {w : World} {ops : Array Oper} {rest : List Oper} {o : Oper} {a : Act} {Q : Exit → Act → World → Prop} (hgd : o.guard = none) (x : Operand)
    (ho : o.op = .convert 9 44 x) (s : List UInt8) (hx : a.eval x = .string ⟨s.toArray⟩) (n : Nat) (hn : s.length = n) (h1 : n ≤ 1000000)
    (h : ∀ c w', Lies w' w'.heap.size 1 (some ⟨w.heap.size, 0, none⟩) n c (s.map bv) → Below w.heap.size w w' → wpList Tryd.prog ops Q rest (a.put o.dst (.slice (some ⟨w.heap.size, 0, none⟩) n c)) w') : wpList Tryd.prog ops Q (o :: rest) a w := by
  subst hn
  have hl := Hash.convKey_lies s (by omega) w
  have hb := Hash.bytesB w s
  have hr := Hash.convKey s w
  revert hl hb hr
  generalize grownCap w s.length 0 5 = c
  generalize Lib.bytesWorld w 5 ⟨s.toArray⟩ = w1
  intro hl hb hr
  refine wpList_plain hgd fun K hK => ?_
  unfold Oper.wp execOp
  simp only [ho, hx, hr, Sem.run_bind, Sem.run_pure, Result.andThen_ok]
  exact hK _ _ (h c w1 hl hb)
theorem arr16 (g n c : Nat) (h : 16 ≤ n) (W : World) : (Instr.arrayAt 23 (.slice (some ⟨g, 0, none⟩) n c)).run Tryd.prog W = .ok (.pointer (some ⟨g, 0, none⟩)) W := by
  simp [Instr.arrayAt, run_underlying und_d]
  omega
theorem lies_range {W : World} {B n c g : Nat} {s : List UInt8} (h : Lies W B 1 (some ⟨g, 0, none⟩) n c (s.map bv)) (h0 : 0 < n) : W.rangeAt g 0 ((s.take 16).map bv) := fun j u hu => by
  obtain ⟨b, o, e, -, hc⟩ := h.cells h0
  cases e
  refine hc j u ?_
  rw [List.map_take] at hu
  rw [← hu]
  have hj : j < ((s.map bv).take 16).length := (List.getElem?_eq_some_iff.1 hu).1
  rw [List.length_take] at hj
  rw [List.getElem?_take_of_lt (by omega)]

set_option maxRecDepth 100000 in
set_option maxHeartbeats 1000000 in
theorem start_any (seed : List UInt8) (hs : seed.length ≤ 1000) (k : Nat) (hk : k ≤ 34) (w : World) (ht : TP w) :
    Calls Tryd.prog 28 #[.string ⟨seed.toArray⟩, .int .i64 (k : Int)] w (GivesD (start seed k) w) := by
  have R0 := dg_zero w 23
  have Z := Wire.b1 w (.cells #[.int .u8 0, .int .u8 0, .int .u8 0, .int .u8 0, .int .u8 0, .int .u8 0, .int .u8 0, .int .u8 0, .int .u8 0, .int .u8 0, .int .u8 0, .int .u8 0, .int .u8 0, .int .u8 0, .int .u8 0, .int .u8 0] 23)
  have HI1 := Lib.hid (fun W => Wire.int_any (k : Int) W (by omega))
  have HT := Lib.hid ht
  have hel := enc_le (n := k) (by omega)
  have HX : Hid (∀ W, TP W → Calls Tryd.prog 40 #[.string ⟨seed.toArray⟩, .string ⟨#[99, 104, 97, 105, 110]⟩, .slice (some ⟨W.heap.size, 0, none⟩) 1 1] (W.alloc (.cells #[.string ⟨(enc (k : Int)).toArray⟩] 9)) (GivesT (Kdf.derive seed chainL [enc (k : Int)]) W)) := Lib.hid (fun W hW => by
    have hb := Wire.b1 W (.cells #[.string ⟨(enc (k : Int)).toArray⟩] 9)
    refine (Kdf.derive_any seed chainL [enc (k : Int)] 1 1 _ _ (lit1 W _) (by omega) ?_ (tabj hW.a hb)).mono fun e w' ⟨h1, h2⟩ => ⟨h1, bcj hb h2⟩
    have e1 := encStr_le (s := chainL) (by decide)
    have e2 := encStr_le (s := enc (k : Int)) (by omega)
    have e3 : chainL.length = 5 := rfl
    simp only [Kdf.input, List.flatMap_cons, List.flatMap_nil, List.append_nil, List.length_append]
    omega)
  have hdl := Kdf.derive_length seed chainL [enc (k : Int)]
  have HS : Hid (start seed k = (Kdf.derive seed chainL [enc (k : Int)]).take 16) := Lib.hid rfl
  generalize Kdf.derive seed chainL [enc (k : Int)] = D at HX hdl HS
  rw [HS.out]
  have HSL : Hid ((D.take 16).length = 16) := Lib.hid (by rw [List.length_take, hdl]; rfl)
  have HDL := Lib.hid hdl
  generalize enc (k : Int) = E at HI1 HX
  clear hdl ht hs hel HS
  go_enter Tryd.func28, Tryd.ntmps28
  go_wp2_with (first
    | (go_at_call 35; (with_reducible refine (HI1.out _).mono ?_); rintro e w1 ⟨g1, c1, rfl, ho1, hb⟩; replace Z := bcj Z hb; replace R0 := R0.on hb; have hcv := Hash.convO ho1 rfl; clear hb)
    | (go_at_call 40; (with_reducible refine (HX.out _ (HT.out.on Z)).mono ?_); rintro e w2 ⟨rfl, hb⟩; replace Z := bcj Z hb; replace R0 := R0.on hb; clear hb hcv ho1)
    | ((with_reducible refine at_slot 12 rfl ?_); refine wpList_conv rfl (.tmp 11) rfl D rfl 32 HDL.out (by omega) ?_; intro c3 w3 hl3 hb; replace Z := bcj Z hb; replace R0 := R0.on hb; have hc3 := hl3.le; have ha3 := arr16 w2.heap.size 16 c3 (Nat.le_refl _); clear hb)
    | (refine load_d 16 rfl rfl (.tmp 15) rfl w2.heap.size 0 rfl (D.take 16) HSL.out (lies_range hl3 (by omega)) ?_)
    | (refine store_d (.tmp 4) (.tmp 16) rfl rfl w.heap.size 0 rfl (D.take 16) rfl HSL.out R0.there ?_))
  have HE := dg_end R0 HSL.out Z (by omega)
  refine bodyPost_ret (v := dv (D.take 16)) ?_ rfl ⟨rfl, HE.2⟩
  simp [results, Tryd.results28, asAddr, Act.put]
  rw [← List.map_take, HE.1]
end Wo
end Go.Proofs.YtmabbiemjeeicaaDoor

/- The package wots: the three closures. Condition: what they have captured reads as said. -/
namespace Go.Proofs.YtmabbiemjeeicaaDoor
open Go.RowKit
namespace Wo
open Mk (dv Dg GivesD dg_new dg_zero dg_end store_d load_d und_d info_d one_d info_dA)
open Wire (bv sv Lies enc Made)
open Hash (Table GivesT tabj bcj ofDig Arr at_slot)

/-- Room for the result. -/
structure Re (w W : World) : Prop where
  r : Dg W w.heap.size zero
  z : Below w.heap.size w W
theorem Re.on {w W W' : World} (h : Re w W) (hb : Below W.heap.size W W') : Re w W' := ⟨h.r.on hb, bcj h.z hb⟩
theorem re_new (w : World) (t : TypeId) : Re w (w.alloc (.cells #[.int .u8 0, .int .u8 0, .int .u8 0, .int .u8 0, .int .u8 0, .int .u8 0, .int .u8 0, .int .u8 0, .int .u8 0, .int .u8 0, .int .u8 0, .int .u8 0, .int .u8 0, .int .u8 0, .int .u8 0, .int .u8 0] t)) := ⟨dg_zero w t, Wire.b1 w _⟩

set_option maxRecDepth 100000 in
set_option maxHeartbeats 1000000 in
theorem cpub_any (seed : List UInt8) (hs : seed.length ≤ 1000) (k : Nat) (hk : k ≤ 34) (p : Nat) (w : World) (ht : TP w) (h0 : w.cell? ⟨p, 0, none⟩ = some (.string ⟨seed.toArray⟩)) :
    Calls Tryd.prog 27 #[.int .i64 (k : Int), .pointer (some ⟨p, 0, none⟩)] w (GivesD (ends seed k) w) := by
  have Y := re_new w 23
  have b0 := World.block_lt_of_cell? w _ h0
  have HC : Hid (∀ W, Re w W → W.cell? ⟨p, 0, none⟩ = some (.string ⟨seed.toArray⟩)) := Lib.hid (fun W h => (h.z.cell b0).trans h0)
  have HT := Lib.hid ht
  have HS := Lib.hid (fun W h => start_any seed hs k hk W h)
  have hsl := start_length seed k
  have HA : Hid (∀ W, TP W → Calls Tryd.prog 21 #[.int .i64 (k : Int), .int .i64 0, .int .i64 15, dv (start seed k)] W (GivesD (ends seed k) W)) := Lib.hid (fun W h => advance_nat k 0 15 hk (by omega) (by omega) _ hsl W h)
  have hel : (ends seed k).length = 16 := adv_length hsl
  generalize start seed k = S at HS HA hsl
  generalize ends seed k = E at HA hel ⊢
  have HEL := Lib.hid hel
  have c0 := HC.out _ Y
  clear h0 ht hs hel hsl b0
  go_enter Tryd.func27, Tryd.ntmps27
  go_wp2_with (first
    | (go_at_call 28; (with_reducible refine (HS.out _ (HT.out.on Y.z)).mono ?_); rintro e w1 ⟨rfl, hb⟩; replace Y := Y.on hb; clear hb c0)
    | (go_at_call 21; (with_reducible refine (HA.out _ (HT.out.on Y.z)).mono ?_); rintro e w2 ⟨rfl, hb⟩; replace Y := Y.on hb; clear hb)
    | (refine store_d (.tmp 3) (.tmp 8) rfl rfl w.heap.size 0 rfl E rfl HEL.out Y.r.there ?_))
  have HE := dg_end Y.r HEL.out Y.z (by omega)
  refine bodyPost_ret (v := dv E) ?_ rfl ⟨rfl, HE.2⟩
  simp [results, Tryd.results27, asAddr, Act.put]
  rw [HE.1]

/-- A list of digits that lies below a block. -/
theorem nums_at {W : World} {B n c : Nat} {A : Option Addr} {l : List Nat} (h : Lies W B 1 A n c (l.map nv)) {k x : Nat} (hx : l[k]? = some x) : ∃ g o, A = some ⟨g, o, none⟩ ∧ g < B ∧ W.cell? ⟨g, o + k, none⟩ = some (.int .i64 (x : Int)) := by
  have hl := h.len
  have hk : k < l.length := (List.getElem?_eq_some_iff.1 hx).1
  rw [List.length_map] at hl
  obtain ⟨g, o, e, hg, hc⟩ := h.cells (by omega)
  exact ⟨g, o, e, hg, hc k (nv x) (by rw [List.getElem?_map, hx]; rfl)⟩

set_option maxRecDepth 100000 in
set_option maxHeartbeats 1000000 in
theorem csign_any (seed d : List UInt8) (hs : seed.length ≤ 1000) (hd : d.length = 16) (k : Nat) (hk : k < 35) (p q c : Nat) (A : Option Addr) (w : World) (ht : TP w) (h0 : w.cell? ⟨p, 0, none⟩ = some (.string ⟨seed.toArray⟩))
    (h1 : w.cell? ⟨q, 0, none⟩ = some (.slice A 35 c)) (hl : Lies w w.heap.size 1 A 35 c ((digs d).map nv)) :
    Calls Tryd.prog 32 #[.int .i64 (k : Int), .pointer (some ⟨q, 0, none⟩), .pointer (some ⟨p, 0, none⟩)] w (GivesD (shown seed d k) w) := by
  have Y := re_new w 23
  have b0 := World.block_lt_of_cell? w _ h0
  have b1 := World.block_lt_of_cell? w _ h1
  obtain ⟨g, o, rfl, hg, hc⟩ := nums_at hl (digs_at hd hk)
  have HC0 : Hid (∀ W, Re w W → W.cell? ⟨p, 0, none⟩ = some (.string ⟨seed.toArray⟩)) := Lib.hid (fun W h => (h.z.cell b0).trans h0)
  have HC1 : Hid (∀ W, Re w W → W.cell? ⟨q, 0, none⟩ = some (.slice (some ⟨g, o, none⟩) 35 c)) := Lib.hid (fun W h => (h.z.cell b1).trans h1)
  have HC2 : Hid (∀ W, Re w W → W.cell? ⟨g, o + k, none⟩ = some (.int .i64 (dig d k : Int))) := Lib.hid (fun W h => (h.z.cell hg).trans hc)
  have HT := Lib.hid ht
  have HS := Lib.hid (fun W h => start_any seed hs k (by omega) W h)
  have hsl := start_length seed k
  have hdk := dig_le hd k
  have HA : Hid (∀ W, TP W → Calls Tryd.prog 21 #[.int .i64 (k : Int), .int .i64 0, .int .i64 (dig d k : Int), dv (start seed k)] W (GivesD (shown seed d k) W)) := Lib.hid (fun W h => advance_nat k 0 (dig d k) (by omega) (by omega) hdk _ hsl W h)
  have hel : (shown seed d k).length = 16 := adv_length hsl
  generalize start seed k = S at HS HA hsl
  generalize shown seed d k = E at HA hel ⊢
  generalize dig d k = x at HC2 HA
  have HEL := Lib.hid hel
  have z0 : (0 : Int) ≤ (k : Int) := by omega
  have z1 : (k : Int) < 35 := by omega
  clear h0 h1 hl ht hs hel hsl b0 b1 hd hdk hc
  go_enter Tryd.func32, Tryd.ntmps32
  go_wp2
  replace Y := Y.on (Hash.belowD _)
  refine RegC.region (fun W => Re w W) [8, 9] (by kernel_rfl) ?_
  (refine RegC.take (i := 0) (v := ?_) rfl (by kernel_rfl) (by kernel_rfl) (by kernel_rfl) (by kernel_rfl) (by kernel_rfl) (fun _ _ _ h => h) (Or.inl ⟨by rfl, ?_⟩) Y ?_; rotate_left 1; focus (intro W hW; go_simp; try (first | with_reducible rfl | (rw [if_pos (by omega)]; done) | (rw [if_pos (by omega), if_neg (by omega)]; done) | (rw [if_neg (by omega)]; done))))
  (refine RegC.take (i := 1) (v := (.slice (some ⟨g, o, none⟩) 35 c)) rfl (by kernel_rfl) (by kernel_rfl) (by kernel_rfl) (by kernel_rfl) (by kernel_rfl) (fun _ _ _ h => h) (Or.inl ⟨by rfl, ?_⟩) Y ?_; focus (intro W hW; go_simp; first | (rw [HC1.out W hW]; rfl) | (rw [HC1.out W hW]; done) | (simp only [HC1.out W hW]; done)))
  (refine RegC.take (i := 2) (v := ?_) rfl (by kernel_rfl) (by kernel_rfl) (by kernel_rfl) (by kernel_rfl) (by kernel_rfl) (fun _ _ _ h => h) (Or.inl ⟨by rfl, ?_⟩) Y ?_; rotate_left 1; focus (intro W hW; go_simp; try (first | with_reducible rfl | (rw [if_pos (by omega)]; done) | (rw [if_pos (by omega), if_neg (by omega)]; done) | (rw [if_neg (by omega)]; done))))
  (refine RegC.take (i := 3) (v := (.pointer (some ⟨g, o + k, none⟩))) rfl (by kernel_rfl) (by kernel_rfl) (by kernel_rfl) (by kernel_rfl) (by kernel_rfl) (fun _ _ _ h => h) (Or.inl ⟨by rfl, ?_⟩) Y ?_; focus (intro W hW; go_simp; try (first | with_reducible rfl | rfl | (rw [if_pos (by omega)]; done) | (rw [if_pos (by omega)]; rfl) | (rw [if_pos (by omega), if_neg (by omega)]; rfl) | (rw [if_neg (by omega)]; rfl))))
  (refine RegC.take (i := 4) (v := (.int .i64 (x : Int))) rfl (by kernel_rfl) (by kernel_rfl) (by kernel_rfl) (by kernel_rfl) (by kernel_rfl) (fun _ _ _ h => h) (Or.inl ⟨by rfl, ?_⟩) Y ?_; focus (intro W hW; go_simp; first | (rw [HC2.out W hW]; rfl) | (rw [HC2.out W hW]; done) | (simp only [HC2.out W hW]; done)))
  (refine RegC.take (i := 5) (v := (.string ⟨seed.toArray⟩)) rfl (by kernel_rfl) (by kernel_rfl) (by kernel_rfl) (by kernel_rfl) (by kernel_rfl) (fun _ _ _ h => h) (Or.inl ⟨by rfl, ?_⟩) Y ?_; focus (intro W hW; go_simp; first | (rw [HC0.out W hW]; rfl) | (rw [HC0.out W hW]; done) | (simp only [HC0.out W hW]; done)))
  (refine RegC.take (i := 6) (v := ?_) rfl (by kernel_rfl) (by kernel_rfl) (by kernel_rfl) (by kernel_rfl) (by kernel_rfl) (fun _ _ _ h => h) (Or.inl ⟨by rfl, ?_⟩) Y ?_; rotate_left 1; focus (intro W hW; go_simp; try (first | with_reducible rfl | (rw [if_pos (by omega)]; done) | (rw [if_pos (by omega), if_neg (by omega)]; done) | (rw [if_neg (by omega)]; done))))
  refine RegC.ready (rs := [7]) (by kernel_rfl) (by simp) ?_
  refine RegC.cons rfl (fun K hK => ?_) RegC.nil
  go_simp
  go_wp2_with (go_at_call 28; (with_reducible refine (HS.out _ (HT.out.on Y.z)).mono ?_); rintro e w1 ⟨rfl, hb⟩; replace Y := Y.on hb; clear hb)
  refine ⟨fun _ => Y, ?_⟩
  refine RegC.rest (by kernel_rfl) ?_
  refine RegC.tail 8 2 rfl (by kernel_rfl) ?_
  simp only [List.drop_succ_cons, List.drop_zero]
  go_wp2_with (first
    | (go_at_call 21; (with_reducible refine (HA.out _ (HT.out.on Y.z)).mono ?_); rintro e w2 ⟨rfl, hb⟩; replace Y := Y.on hb; clear hb)
    | (refine store_d (.tmp 4) (.tmp 13) rfl rfl w.heap.size 0 rfl E rfl HEL.out Y.r.there ?_))
  have HE := dg_end Y.r HEL.out Y.z (by omega)
  refine bodyPost_ret (v := dv E) ?_ rfl ⟨rfl, HE.2⟩
  simp [results, Tryd.results32, asAddr, Act.put]
  rw [HE.1]
theorem exec_arr {ρ : Operand → Value} {o : Oper} {W : World} (x : Operand) (ho : o.op = .sliceToArrayPointer 23 x) (g n c : Nat) (hx : ρ x = .slice (some ⟨g, 0, none⟩) n c) (hn : 16 ≤ n) :
    (execOp ρ o).run Tryd.prog W = .ok (.value (.pointer (some ⟨g, 0, none⟩))) W := by
  unfold execOp
  simp only [ho, hx, Sem.run_bind, Sem.run_pure, Result.andThen_ok, arr16 g n c hn W]
/-- A text from a byte on; its first bytes. -/
theorem cut_from (x : List UInt8) (k : Nat) (hk : k ≤ x.length) (W : World) : (Instr.slice 9 (.string ⟨x.toArray⟩) (some (.int .i64 (k : Int))) none none).run Tryd.prog W = .ok (.string ⟨(x.drop k).toArray⟩) W := by
  have h := run_slice_string_from_if (P := Tryd.prog) W 9 ⟨x.toArray⟩ .i64 (k : Int) Tryd.underlying9
  rw [h]
  have hs := Hash.sizeS x
  simp [hs, hk]
  apply ByteArray.ext
  rw [ByteArray.data_extract]
  apply Array.toList_inj.1
  rw [Array.toList_extract, List.extract_eq_take_drop]
  exact List.take_of_length_le (by simp)
theorem cut_to (x y : List UInt8) (k : Nat) (hk : k ≤ x.length) (h : x.take k = y) (W : World) : (Instr.slice 9 (.string ⟨x.toArray⟩) none (some (.int .i64 (k : Int))) none).run Tryd.prog W = .ok (.string ⟨y.toArray⟩) W := by
  have h1 := run_slice_string_to_if (P := Tryd.prog) W 9 ⟨x.toArray⟩ .i64 (k : Int) Tryd.underlying9
  have hs := Hash.sizeS x
  rw [h1, ← h]
  simp [hs, hk]
  apply ByteArray.ext
  rw [ByteArray.data_extract]
  apply Array.toList_inj.1
  rw [Array.toList_extract, List.extract_eq_take_drop]
  simp

set_option maxRecDepth 100000 in
set_option maxHeartbeats 1000000 in
theorem crec_any (s d : List UInt8) (hs : s.length = 560) (hd : d.length = 16) (k : Nat) (hk : k < 35) (p q c : Nat) (A : Option Addr) (w : World) (ht : TP w) (h0 : w.cell? ⟨p, 0, none⟩ = some (.string ⟨s.toArray⟩))
    (h1 : w.cell? ⟨q, 0, none⟩ = some (.slice A 35 c)) (hl : Lies w w.heap.size 1 A 35 c ((digs d).map nv)) :
    Calls Tryd.prog 26 #[.int .i64 (k : Int), .pointer (some ⟨p, 0, none⟩), .pointer (some ⟨q, 0, none⟩)] w (GivesD (led d s k) w) := by
  have Y := re_new w 23
  have b0 := World.block_lt_of_cell? w _ h0
  have b1 := World.block_lt_of_cell? w _ h1
  obtain ⟨g, o, rfl, hg, hc⟩ := nums_at hl (digs_at hd hk)
  have c0 : (w.alloc (.cells #[.int .u8 0, .int .u8 0, .int .u8 0, .int .u8 0, .int .u8 0, .int .u8 0, .int .u8 0, .int .u8 0, .int .u8 0, .int .u8 0, .int .u8 0, .int .u8 0, .int .u8 0, .int .u8 0, .int .u8 0, .int .u8 0] 23)).cell? ⟨p, 0, none⟩ = some (.string ⟨s.toArray⟩) := (Y.z.cell b0).trans h0
  have HC1 : Hid (∀ W, Re w W → W.cell? ⟨q, 0, none⟩ = some (.slice (some ⟨g, o, none⟩) 35 c)) := Lib.hid (fun W h => (h.z.cell b1).trans h1)
  have HC2 : Hid (∀ W, Re w W → W.cell? ⟨g, o + k, none⟩ = some (.int .i64 (dig d k : Int))) := Lib.hid (fun W h => (h.z.cell hg).trans hc)
  have HT := Lib.hid ht
  have hsl := piece_length hs hk
  have hdk := dig_le hd k
  have HA : Hid (∀ W, TP W → Calls Tryd.prog 21 #[.int .i64 (k : Int), .int .i64 (dig d k : Int), .int .i64 15, dv (piece s k)] W (GivesD (led d s k) W)) := Lib.hid (fun W h => advance_nat k (dig d k) 15 (by omega) hdk (by omega) _ hsl W h)
  have hel : (led d s k).length = 16 := adv_length hsl
  have hz : (⟨s.toArray⟩ : ByteArray).size = 560 := by rw [Hash.sizeS, hs]
  have hcut : ∀ W, (Instr.slice 9 (.string ⟨s.toArray⟩) (some (.int .i64 ((k : Int) * 16))) none none).run Tryd.prog W = .ok (.string ⟨(s.drop (16 * k)).toArray⟩) W := fun W => by
    have := cut_from s (16 * k) (by omega) W
    rwa [show ((16 * k : Nat) : Int) = (k : Int) * 16 by omega] at this
  have hcut2 : ∀ W, (Instr.slice 9 (.string ⟨(s.drop (16 * k)).toArray⟩) none (some (.int .i64 16)) none).run Tryd.prog W = .ok (.string ⟨(piece s k).toArray⟩) W := fun W => cut_to _ _ 16 (by rw [List.length_drop]; omega) rfl W
  generalize s.drop (16 * k) = sd at hcut hcut2
  generalize led d s k = E at HA hel ⊢
  generalize piece s k = P at hcut2 HA hsl
  generalize dig d k = x at HC2 HA
  have HEL := Lib.hid hel
  have HPL := Lib.hid hsl
  have z0 : (0 : Int) ≤ (k : Int) := by omega
  have z1 : (k : Int) < 35 := by omega
  clear h0 h1 hl ht hs hel hsl b0 b1 hd hdk hc hz
  go_enter Tryd.func26, Tryd.ntmps26
  go_wp2_with (first
    | ((with_reducible refine at_slot 11 rfl ?_); refine wpList_conv rfl (.tmp 10) rfl P rfl 16 HPL.out (by omega) ?_; intro c3 w3 hl3 hb; replace Y := Y.on hb; clear hb c0))
  have Y2 := And.intro (Y.on (Hash.belowD _)) (hl3.on (Hash.belowD _))
  rw [Wire.size_alloc] at Y2
  clear hl3 Y
  have Y := Y2
  clear Y2
  have HC1 : Hid (∀ W, Re w W ∧ Lies W W.heap.size 1 (some ⟨w.heap.size + 1, 0, none⟩) 16 c3 (P.map bv) → W.cell? ⟨q, 0, none⟩ = some (.slice (some ⟨g, o, none⟩) 35 c)) := Lib.hid (fun W h => HC1.out W h.1)
  have HC2 : Hid (∀ W, Re w W ∧ Lies W W.heap.size 1 (some ⟨w.heap.size + 1, 0, none⟩) 16 c3 (P.map bv) → W.cell? ⟨g, o + k, none⟩ = some (.int .i64 (x : Int))) := Lib.hid (fun W h => HC2.out W h.1)
  have hPt : P.take 16 = P := List.take_of_length_le (by rw [HPL.out]; omega)
  have HR : Hid (∀ W, Re w W ∧ Lies W W.heap.size 1 (some ⟨w.heap.size + 1, 0, none⟩) 16 c3 (P.map bv) → W.rangeAt (w.heap.size + 1) 0 (P.map bv)) := Lib.hid (fun W h => by have := lies_range h.2 (by omega); rwa [hPt] at this)
  clear hPt
  refine RegC.region (fun W => Re w W ∧ Lies W W.heap.size 1 (some ⟨w.heap.size + 1, 0, none⟩) 16 c3 (P.map bv)) [8, 9] (by kernel_rfl) ?_
  (refine RegC.take (i := 0) (v := ?_) rfl (by kernel_rfl) (by kernel_rfl) (by kernel_rfl) (by kernel_rfl) (by kernel_rfl) (fun _ _ _ h => h) (Or.inl ⟨by rfl, ?_⟩) Y ?_; rotate_left 1; focus (intro W hW; go_simp; try (first | with_reducible rfl | (rw [if_pos (by omega)]; done) | (rw [if_pos (by omega), if_neg (by omega)]; done) | (rw [if_neg (by omega)]; done))))
  (refine RegC.take (i := 1) (v := (.slice (some ⟨g, o, none⟩) 35 c)) rfl (by kernel_rfl) (by kernel_rfl) (by kernel_rfl) (by kernel_rfl) (by kernel_rfl) (fun _ _ _ h => h) (Or.inl ⟨by rfl, ?_⟩) Y ?_; focus (intro W hW; go_simp; first | (rw [HC1.out W hW]; rfl) | (rw [HC1.out W hW]; done) | (simp only [HC1.out W hW]; done)))
  (refine RegC.take (i := 2) (v := ?_) rfl (by kernel_rfl) (by kernel_rfl) (by kernel_rfl) (by kernel_rfl) (by kernel_rfl) (fun _ _ _ h => h) (Or.inl ⟨by rfl, ?_⟩) Y ?_; rotate_left 1; focus (intro W hW; go_simp; try (first | with_reducible rfl | (rw [if_pos (by omega)]; done) | (rw [if_pos (by omega), if_neg (by omega)]; done) | (rw [if_neg (by omega)]; done))))
  (refine RegC.take (i := 3) (v := (.pointer (some ⟨g, o + k, none⟩))) rfl (by kernel_rfl) (by kernel_rfl) (by kernel_rfl) (by kernel_rfl) (by kernel_rfl) (fun _ _ _ h => h) (Or.inl ⟨by rfl, ?_⟩) Y ?_; focus (intro W hW; go_simp; try (first | with_reducible rfl | rfl | (rw [if_pos (by omega)]; done) | (rw [if_pos (by omega)]; rfl) | (rw [if_pos (by omega), if_neg (by omega)]; rfl) | (rw [if_neg (by omega)]; rfl))))
  (refine RegC.take (i := 4) (v := (.int .i64 (x : Int))) rfl (by kernel_rfl) (by kernel_rfl) (by kernel_rfl) (by kernel_rfl) (by kernel_rfl) (fun _ _ _ h => h) (Or.inl ⟨by rfl, ?_⟩) Y ?_; focus (intro W hW; go_simp; first | (rw [HC2.out W hW]; rfl) | (rw [HC2.out W hW]; done) | (simp only [HC2.out W hW]; done)))
  (refine RegC.take (i := 5) (v := ?_) rfl (by kernel_rfl) (by kernel_rfl) (by kernel_rfl) (by kernel_rfl) (by kernel_rfl) (fun _ _ _ h => h) (Or.inl ⟨by rfl, ?_⟩) Y ?_; rotate_left 1; focus (intro W hW; go_simp; try (first | with_reducible rfl | (rw [if_pos (by omega)]; done) | (rw [if_pos (by omega), if_neg (by omega)]; done) | (rw [if_neg (by omega)]; done))))
  (refine RegC.take (i := 6) (v := (.pointer (some ⟨w.heap.size + 1, 0, none⟩))) rfl (by kernel_rfl) (by kernel_rfl) (by kernel_rfl) (by kernel_rfl) (by kernel_rfl) (fun _ _ _ h => h) (Or.inl ⟨by rfl, fun W hW => ?_⟩) Y ?_; focus (exact exec_arr (.tmp 17) rfl (w.heap.size + 1) 16 c3 (by go_simp) (Nat.le_refl _)))
  (refine RegC.take (i := 7) (v := (.agg (P.map bv).toArray)) rfl (by kernel_rfl) (by kernel_rfl) (by kernel_rfl) (by kernel_rfl) (by kernel_rfl) (fun _ _ _ h => h) (Or.inl ⟨by rfl, fun W hW => ?_⟩) Y ?_; focus (exact RegC.exec_rowC 23 (.tmp 18) rfl (w.heap.size + 1) 0 (by go_simp) (P.map bv) _ (HR.out W hW) und_d rfl (info_d HPL.out)))
  refine RegC.rest (by kernel_rfl) ?_
  refine RegC.tail 8 2 rfl (by kernel_rfl) ?_
  simp only [List.drop_succ_cons, List.drop_zero]
  replace Y := Y.1
  unfold dv at HA
  go_wp2_with (first
    | (go_at_call 21; (with_reducible refine (HA.out _ (HT.out.on Y.z)).mono ?_); rintro e w2 ⟨rfl, hb⟩; replace Y := Y.on hb; clear hb)
    | (refine store_d (.tmp 4) (.tmp 20) rfl rfl w.heap.size 0 (by go_simp) E (by go_simp) HEL.out Y.r.there ?_))
  have HE := dg_end Y.r HEL.out Y.z (by omega)
  refine bodyPost_ret (v := dv E) ?_ rfl ⟨rfl, HE.2⟩
  simp [results, Tryd.results26, asAddr, Act.put]
  rw [HE.1]
end Wo
end Go.Proofs.YtmabbiemjeeicaaDoor

