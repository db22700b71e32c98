/- The examples that every statement plays first. Condition: the table of round constants reads as the program lays it. -/
import Derived.Test.YtciinlncflngdaaDoorHEx
import Derived.Stop.BytesEq
namespace Go.Proofs.YtciinlncflngdaaDoor
open Go.RowKit
namespace Hash
open Wire (sv)

def YesH (W : World) (e : Ending) (w' : World) : Prop := e = .returned (.bool true) ∧ Below W.heap.size W w'
theorem tells_yes {W : World} {b : Bool} {e : Ending} {w' : World} (h : Tells b W e w') : e = .returned (.bool b) ∧ Below W.heap.size W w' := by
  obtain ⟨h1, k, rfl⟩ := h
  exact ⟨h1, ⟨rfl, rfl, rfl, Nat.le_refl _, fun _ _ => rfl⟩⟩
/-- The blocks of the three results, once each is there. -/
structure SaneS (w W : World) (gT : Nat) : Prop where
  tab : Table gT W
  below : Below w.heap.size w W
theorem SaneS.on {w W W2 : World} {gT : Nat} (h : SaneS w W gT) (hb : Below W.heap.size W W2) : SaneS w W2 gT := ⟨tabj h.tab hb, bcj h.below hb⟩
theorem onA {W W2 : World} {g n : Nat} {xs : List Value} (h : Arr W g n xs) (hb : Below W.heap.size W W2) (hn : 0 < n) : Arr W2 g n xs := h.below hb (h.size hn)

theorem sumAbc (W : World) (ht : Table 1 W) :
    Calls Tryd.prog 11 #[.slice (some ⟨W.heap.size, 0, none⟩) 3 3] (W.alloc (.cells #[.int .u8 97, .int .u8 98, .int .u8 99] 5 (3, 4))) fun e w' => e = .returned (.agg ((sha abc).map Wire.bv).toArray) ∧ Below W.heap.size W w' := by
  have hb : Below W.heap.size W (W.alloc (.cells #[.int .u8 97, .int .u8 98, .int .u8 99] 5 (3, 4))) := (Below.refl _ _).alloc (Nat.le_refl _) _
  have hl : Wire.Lies (W.alloc (.cells #[.int .u8 97, .int .u8 98, .int .u8 99] 5 (3, 4))) (W.alloc (.cells #[.int .u8 97, .int .u8 98, .int .u8 99] 5 (3, 4))).heap.size 1 (some ⟨W.heap.size, 0, none⟩) 3 3 (abc.map Wire.bv) :=
    ⟨rfl, Nat.le_refl _, by unfold maxLen; omega, fun _ => ⟨_, _, rfl⟩, fun _ => ⟨_, _, rfl, by simp, fun j u hu => by
      rw [Nat.zero_add, cell_of_row _ W.heap.size j #[.int .u8 97, .int .u8 98, .int .u8 99] 5 (3, 4) (heap_alloc_new W _)]
      simpa [abc, Wire.bv] using hu⟩⟩
  exact (sum_any abc 3 3 _ _ hl (tabj ht hb)).mono fun e w' ⟨he, hw⟩ => ⟨he, bcj hb hw⟩
theorem ofEx (W : World) (ht : Table 1 W) :
    Calls Tryd.prog 21 #[.int .i64 8, .slice (some ⟨W.heap.size, 0, none⟩) 2 2] (W.alloc (.cells #[.string ⟨#[97]⟩, .string ⟨#[]⟩] 9)) fun e w' => e = .returned (.agg ((ofDig 8 [[97], []]).map Wire.bv).toArray) ∧ Below W.heap.size W w' := by
  have hb : Below W.heap.size W (W.alloc (.cells #[.string ⟨#[97]⟩, .string ⟨#[]⟩] 9)) := (Below.refl _ _).alloc (Nat.le_refl _) _
  have ha := arr_new W #[.string ⟨#[97]⟩, .string ⟨#[]⟩] 9
  have hl : Wire.Lies (W.alloc (.cells #[.string ⟨#[97]⟩, .string ⟨#[]⟩] 9)) (W.alloc (.cells #[.string ⟨#[97]⟩, .string ⟨#[]⟩] 9)).heap.size 1 (some ⟨W.heap.size, 0, none⟩) 2 2 (([[97], []] : List (List UInt8)).map sv) :=
    ⟨rfl, Nat.le_refl _, by unfold maxLen; omega, fun _ => ⟨_, _, rfl⟩, fun _ => ⟨_, _, rfl, ha.size (n := 2) (by omega), fun j u hu => by rw [Nat.zero_add]; exact ha.cells j u hu⟩⟩
  refine (of_any 8 [[97], []] 2 2 _ _ hl (fun s hs => ?_) (tabj ht hb)).mono fun e w' ⟨he, hw⟩ => ⟨he, bcj hb hw⟩
  have hle : s.length ≤ 1 := by
    rcases List.mem_cons.1 hs with rfl | hs
    · exact Nat.le_refl _
    · obtain rfl := List.mem_singleton.1 hs; exact Nat.zero_le _
  have := Wire.enc_length_le (n := (s.length : Int)) (by omega)
  show (Wire.enc (s.length : Int) ++ s).length ≤ _
  rw [List.length_append]; omega
theorem macEx (W : World) (ht : Table 1 W) : Calls Tryd.prog 18 #[.string ⟨jefe.toArray⟩, .string ⟨what.toArray⟩] W (GivesT (mac jefe what) W) := mac_any jefe what W (by decide) (by decide) ht
theorem hexEx (s l : List UInt8) (h : hexOf s = l) (hl : s.length ≤ 1000000) (W : World) : Calls Tryd.prog 25 #[.string ⟨s.toArray⟩] W fun e w' => e = .returned (.string ⟨l.toArray⟩) ∧ Below W.heap.size W w' := by
  rw [← h]; exact hex_any s W hl
theorem eqEx (a b : List UInt8) (ha : a.length ≤ 100) (W : World) : Calls Tryd.prog 24 #[.string ⟨a.toArray⟩, .string ⟨b.toArray⟩] W fun e w' => e = .returned (.bool (decide (a = b))) ∧ Below W.heap.size W w' :=
  (equal_any a b W (by omega)).mono fun _ _ h => tells_yes h

theorem eqT (a : List UInt8) (W : World) (ha : a.length ≤ 100) : Calls Tryd.prog 24 #[.string ⟨a.toArray⟩, .string ⟨a.toArray⟩] W fun e w' => e = .returned (.bool true) ∧ Below W.heap.size W w' := by
  have := eqEx a a ha W
  rwa [decide_eq_true rfl] at this
theorem eqF (a b : List UInt8) (W : World) (ha : a.length ≤ 100) (hne : ¬ a = b) : Calls Tryd.prog 24 #[.string ⟨a.toArray⟩, .string ⟨b.toArray⟩] W fun e w' => e = .returned (.bool false) ∧ Below W.heap.size W w' := by
  have := eqEx a b ha W
  rwa [decide_eq_false hne] at this
theorem shp (w : World) (C : Array Value) (e : TypeId) : (w.alloc (.cells C e)).shape? w.heap.size = some (e, C.size) := by
  unfold World.shape?
  rw [heap_alloc_new w (.cells C e)]
theorem frz (w : World) (C : Array Value) (e : TypeId) (n : Nat) : (w.alloc (.cells C e)).freeze ⟨w.heap.size, n, none⟩ 1 = w.alloc (.cells C e (n, n + 1)) := by
  have hm : ∀ (a : Array Obj) (x : Obj) (f : Obj → Obj), (a.push x).modify a.size f = a.push (f x) := by
    intro a x f
    apply Array.ext
    · simp
    · intro i h1 h2
      simp only [Array.getElem_modify, Array.getElem_push]
      by_cases h : a.size = i
      · subst h; simp
      · have hi : i < a.size := by simp at h1; omega
        simp [h, hi]
  unfold World.freeze
  rw [if_neg (by decide)]
  show ({ w.alloc (.cells C e) with heap := (w.heap.push (.cells C e)).modify w.heap.size _ } : World) = _
  rw [hm]
  rfl
theorem convS (W : World) : (convert 22 22 (.slice (some ⟨W.heap.size, 0, none⟩) 3 3)).run Tryd.prog (W.alloc (.cells #[.int .u8 97, .int .u8 98, .int .u8 99] 5)) = .ok (.slice (some ⟨W.heap.size, 0, none⟩) 3 3) (W.alloc (.cells #[.int .u8 97, .int .u8 98, .int .u8 99] 5 (3, 4))) := by
  have h1 := shp W #[.int .u8 97, .int .u8 98, .int .u8 99] 5
  have h2 := frz W #[.int .u8 97, .int .u8 98, .int .u8 99] 5 3
  simp [convert, run_underlying Tryd.underlying22, markStringish, h1, h2]
theorem byteSz (w : World) : (sizeOf 5).run Tryd.prog w = .ok 1 w := by kernel_rfl
theorem eqA (A : List UInt8) (hA : A.length = 32) (W : World) : (Op.equalIn 10000 24 (.agg (A.map Wire.bv).toArray) (.agg (A.map Wire.bv).toArray)).run Tryd.prog W = .ok true W := by
  have h := run_equalIn_bytes W 9998 24 5 32 und32 Tryd.underlying5 byteSz A A hA hA
  rwa [show (A == A) = true by simp] at h
theorem fresh16 (W : World) (bs : List UInt8) (hl : bs.length = 16) (t : TypeId) : (W.alloc (.cells z16 t)).there W.heap.size 0 (bs.map Wire.bv).toArray.size := by
  have h := arr_new W z16 t
  rw [z16_size] at h
  exact h.thereA (by rw [List.length_map]; exact hl)
theorem fresh16A (W : World) (bs : List UInt8) (hl : bs.length = 16) (t : TypeId) : Arr ((W.alloc (.cells z16 t)).setCells W.heap.size 0 (bs.map Wire.bv).toArray.toList) W.heap.size 16 (bs.map Wire.bv) ∧ Below W.heap.size W ((W.alloc (.cells z16 t)).setCells W.heap.size 0 (bs.map Wire.bv).toArray.toList) := by
  have h := arr_new W z16 t
  rw [z16_size] at h
  exact ⟨h.over (by rw [List.length_map]; exact hl), ((Below.refl _ _).alloc (Nat.le_refl _) _).trans (below_cells (Nat.le_refl _) _ _ _)⟩
/-- A load behind a guard that holds. -/
theorem wpList_load_midG {P : Program} {ops : Array Oper} {rest : List Oper} {op : Oper} {a : Act} {w : World} {Q : Exit → Act → World → Prop} (hw : Region.wanted op (yielded ops a.tmps) = true) (ty : TypeId) (x : Operand) (ho : op.op = .load ty x)
    (b o : Nat) (hx : a.eval x = .pointer (some ⟨b, o, none⟩)) (cs : List Value) (d : TypeDesc) (hc : w.rangeAt b o cs)
    (hu : P.underlying ty = some d) (hd : d.isRow = true) (hi : (P.info? ty).map (·.size) = some cs.length)
    (h : wpList P ops Q rest (a.put op.dst (.agg cs.toArray)) w) : wpList P ops Q (op :: rest) a w :=
  wpList_step fun K hK => by rw [if_pos hw]; exact wp_load_mid ty x ho b o hx cs d hc hu hd hi (hK _ _ h)

set_option maxRecDepth 100000 in
set_option maxHeartbeats 1000000 in
theorem sanity_any (w : World) (ht : Table 1 w) : Calls Tryd.prog 10 #[] w (YesH w) := by
  have S : SaneS w w 1 := ⟨ht, Below.refl _ _⟩
  have hz2 := zero32
  have hz3 := zero16v
  obtain ⟨A, hA⟩ : ∃ A, A = sha abc := ⟨_, rfl⟩
  obtain ⟨D, hD⟩ : ∃ D, D = ofDig 8 [[97], []] := ⟨_, rfl⟩
  obtain ⟨M, hM⟩ : ∃ M, M = mac jefe what := ⟨_, rfl⟩
  have hAl : A.length = 32 := by rw [hA]; exact sha_length _
  have hDl : D.length = 16 := by rw [hD]; unfold ofDig; rw [List.length_take, sha_length]; rfl
  have hMl : M.length = 32 := by rw [hM]; unfold mac; exact sha_length _
  have cA := fun W hW => sumAbc W hW
  have cB : ∀ W, Table 1 W → Calls Tryd.prog 17 #[.agg (strm [97, 98, 99]).toArray] W (GivesA (A.map Wire.bv) W) := fun W hW => by rw [hA]; exact streamSum_any abc W hW
  have cD := fun W hW => ofEx W hW
  have cM : ∀ W, Table 1 W → Calls Tryd.prog 18 #[.string ⟨jefe.toArray⟩, .string ⟨what.toArray⟩] W (GivesT M W) := fun W hW => by rw [hM]; exact macEx W hW
  have hx1 := hexEx A lit1 (by rw [hA]; exact ex1) (by omega)
  have hx2 := hexEx M lit2 (by rw [hM]; exact ex2) (by omega)
  have hx3 := hexEx D lit3 (by rw [hD]; exact ex3) (by omega)
  rw [← hA] at cA
  rw [← hD] at cD
  unfold jefe what at cM
  unfold lit1 at hx1
  unfold lit2 at hx2
  unfold lit3 at hx3
  have CA := Lib.hid cA
  have CB := Lib.hid cB
  have CD := Lib.hid cD
  have CM := Lib.hid cM
  have X1 := Lib.hid hx1
  have X2 := Lib.hid hx2
  have X3 := Lib.hid hx3
  have AL := Lib.hid hAl
  have DL := Lib.hid hDl
  clear cA cB cD cM hx1 hx2 hx3 hAl hDl hMl hA hD hM ht
  have C1 := Lib.hid (fun W (hW : Table 1 W) => addM0 [97] (by decide) W hW)
  have C2 := Lib.hid (fun W (hW : Table 1 W) => addM_any [97] [98, 99] W (by decide) hW)
  have E1 := Lib.hid (fun W => eqT [97, 98] W (by decide))
  have E2 := Lib.hid (fun W => eqF [97, 98] [97, 99] W (by decide) (by decide))
  have E3 := Lib.hid (fun W => eqF [] [97] W (by decide) (by decide))
  have hcc := convS
  have heq := eqA A AL.out
  go_enter Tryd.func10, Tryd.ntmps10
  go_wp2_with (first
    | (go_at_call 11; (with_reducible refine (CA.out _ S.tab).mono ?_); rintro e w1 ⟨rfl, hb⟩; replace S := S.on hb; clear hb)
    | ((with_reducible refine at_store 24 (.tmp 1) (.tmp 9) rfl ?_); refine wpList_store_mid rfl 24 (.tmp 1) (.tmp 9) rfl w1.heap.size 0 (A.map Wire.bv).toArray rfl rfl (fresh32 w1 A AL.out _) (i32A AL.out) (bytes_all _) ?_; have HN := fresh32A w1 A AL.out 24; refine gen_world (Pq := fun W => SaneS w W 1 ∧ Arr W w1.heap.size 32 (A.map Wire.bv)) (G := fun W => wpList _ _ _ _ _ W) ⟨S.on HN.2, HN.1⟩ ?_; rintro w2 ⟨S2, A1⟩; clear HN S)
    | (go_at_call 14; (with_reducible refine (begin_any _).mono ?_); rintro e w3 ⟨rfl, hb⟩; replace S2 := S2.on hb; replace A1 := onA A1 hb (by omega); clear hb)
    | (go_at_call 15; (with_reducible refine (C1.out _ S2.tab).mono ?_); rintro e w4 ⟨rfl, hb⟩; replace S2 := S2.on hb; replace A1 := onA A1 hb (by omega); clear hb)
    | (go_at_call 15; (with_reducible refine (C2.out _ S2.tab).mono ?_); rintro e w5 ⟨rfl, hb⟩; replace S2 := S2.on hb; replace A1 := onA A1 hb (by omega); clear hb)
    | (go_at_call 17; (with_reducible refine (CB.out _ S2.tab).mono ?_); rintro e w6 ⟨rfl, hb⟩; replace S2 := S2.on hb; replace A1 := onA A1 hb (by omega); clear hb)
    | ((with_reducible refine at_store 24 (.tmp 2) (.tmp 13) rfl ?_); refine wpList_store_mid rfl 24 (.tmp 2) (.tmp 13) rfl w6.heap.size 0 (A.map Wire.bv).toArray rfl rfl (fresh32 w6 A AL.out _) (i32A AL.out) (bytes_all _) ?_; have HN := fresh32A w6 A AL.out 24; refine gen_world (Pq := fun W => (SaneS w W 1 ∧ Arr W w1.heap.size 32 (A.map Wire.bv)) ∧ Arr W w6.heap.size 32 (A.map Wire.bv)) (G := fun W => wpList _ _ _ _ _ W) ⟨⟨S2.on HN.2, onA A1 HN.2 (by omega)⟩, HN.1⟩ ?_; clear HN S2 A1; rintro w7 ⟨⟨S2, A1⟩, B1⟩)
    | (go_at_call 21; (with_reducible refine (CD.out _ S2.tab).mono ?_); rintro e w8 ⟨rfl, hb⟩; replace S2 := S2.on hb; replace A1 := onA A1 hb (by omega); replace B1 := onA B1 hb (by omega); clear hb)
    | ((with_reducible refine at_store 44 (.tmp 3) (.tmp 15) rfl ?_); refine wpList_store_mid rfl 44 (.tmp 3) (.tmp 15) rfl w8.heap.size 0 (D.map Wire.bv).toArray rfl rfl (fresh16 w8 D DL.out _) (i16A (by rw [List.length_map]; exact DL.out)) (bytes_all _) ?_; have HN := fresh16A w8 D DL.out 44; refine gen_world (Pq := fun W => ((SaneS w W 1 ∧ Arr W w1.heap.size 32 (A.map Wire.bv)) ∧ Arr W w6.heap.size 32 (A.map Wire.bv)) ∧ Arr W w8.heap.size 16 (D.map Wire.bv)) (G := fun W => wpList _ _ _ _ _ W) ⟨⟨⟨S2.on HN.2, onA A1 HN.2 (by omega)⟩, onA B1 HN.2 (by omega)⟩, HN.1⟩ ?_; clear HN S2 A1 B1; rintro w9 ⟨⟨⟨S2, A1⟩, B1⟩, D1⟩)
    | (go_at_call 18; (with_reducible refine (CM.out _ S2.tab).mono ?_); rintro e w10 ⟨rfl, hb⟩; replace S2 := S2.on hb; replace A1 := onA A1 hb (by omega); replace B1 := onA B1 hb (by omega); replace D1 := onA D1 hb (by omega); clear hb)
    | (go_at_call 24; (with_reducible refine (E1.out _).mono ?_); rintro e w11 ⟨rfl, hb⟩; replace S2 := S2.on hb; replace A1 := onA A1 hb (by omega); replace B1 := onA B1 hb (by omega); replace D1 := onA D1 hb (by omega); clear hb)
    | (go_at_call 24; (with_reducible refine (E2.out _).mono ?_); rintro e w12 ⟨rfl, hb⟩; replace S2 := S2.on hb; replace A1 := onA A1 hb (by omega); replace B1 := onA B1 hb (by omega); replace D1 := onA D1 hb (by omega); clear hb)
    | (go_at_call 24; (with_reducible refine (E3.out _).mono ?_); rintro e w13 ⟨rfl, hb⟩; replace S2 := S2.on hb; replace A1 := onA A1 hb (by omega); replace B1 := onA B1 hb (by omega); replace D1 := onA D1 hb (by omega); clear hb)
    | ((with_reducible refine at_slot 22 rfl ?_); refine wpList_load_mid rfl 24 (.tmp 1) rfl w1.heap.size 0 rfl (A.map Wire.bv) _ A1.range und32 rfl (i32 AL.out) ?_)
    | (go_at_call 20; (with_reducible refine (bytes32_any A _ AL.out).mono ?_); rintro e w14 ⟨rfl, hb⟩; replace S2 := S2.on hb; replace A1 := onA A1 hb (by omega); replace B1 := onA B1 hb (by omega); replace D1 := onA D1 hb (by omega); clear hb)
    | (go_at_call 25; (with_reducible refine (X1.out _).mono ?_); rintro e w15 ⟨rfl, hb⟩; replace S2 := S2.on hb; replace A1 := onA A1 hb (by omega); replace B1 := onA B1 hb (by omega); replace D1 := onA D1 hb (by omega); clear hb)
    | ((with_reducible refine at_slot 27 rfl ?_); refine wpList_load_midG rfl 24 (.tmp 1) rfl w1.heap.size 0 rfl (A.map Wire.bv) _ A1.range und32 rfl (i32 AL.out) ?_)
    | ((with_reducible refine at_slot 28 rfl ?_); refine wpList_load_midG rfl 24 (.tmp 2) rfl w6.heap.size 0 rfl (A.map Wire.bv) _ B1.range und32 rfl (i32 AL.out) ?_)
    | (go_at_call 25; (with_reducible refine (X2.out _).mono ?_); rintro e w16 ⟨rfl, hb⟩; replace S2 := S2.on hb; replace A1 := onA A1 hb (by omega); replace B1 := onA B1 hb (by omega); replace D1 := onA D1 hb (by omega); clear hb)
    | ((with_reducible refine at_slot 37 rfl ?_); refine wpList_load_midG rfl 44 (.tmp 3) rfl w8.heap.size 0 rfl (D.map Wire.bv) _ D1.range Tryd.underlying44 rfl (i16 (by rw [List.length_map]; exact DL.out)) ?_)
    | (go_at_call 26; (with_reducible refine (text_any D _ DL.out).mono ?_); rintro e w17 ⟨rfl, hb⟩; replace S2 := S2.on hb; replace A1 := onA A1 hb (by omega); replace B1 := onA B1 hb (by omega); replace D1 := onA D1 hb (by omega); clear hb)
    | (go_at_call 25; (with_reducible refine (X3.out _).mono ?_); rintro e w18 ⟨rfl, hb⟩; replace S2 := S2.on hb; replace A1 := onA A1 hb (by omega); replace B1 := onA B1 hb (by omega); replace D1 := onA D1 hb (by omega); clear hb))
  go_ret
  exact ⟨rfl, S2.below⟩

end Hash
end Go.Proofs.YtciinlncflngdaaDoor
