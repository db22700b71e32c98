/- HRefPad; HRefW; HRefSum: what each of these parts proves stands ahead of it. -/
import Derived.Test.YthpkeaafgabjiaaDoorM4
import Derived.Test.YthpkeaafgabjiaaDoorZInt
import Derived.Test.YthpkeaafgabjiaaDoorM1
import Derived.Test.YthpkeaafgabjiaaDoorM3
/- The reference's padded message. Condition: the message has at most a million bytes. -/
namespace Go.Proofs.YthpkeaafgabjiaaDoor
open Go.RowKit
namespace Hash
open Wire (bv Made Lies)

theorem lies_news {w : World} {B n c : Nat} {a : Addr} {bs : List UInt8} (h : Lies w B 1 (some a) n c (bs.map bv)) (j : Nat) (u : Value) (hu : (bs.map bv)[j]? = some u) : w.cell? (a.add j) = some u := by
  have hl : j < (bs.map bv).length := (List.getElem?_eq_some_iff.1 hu).1
  have hn := h.len
  obtain ⟨b, o, e, _, hc⟩ := h.cells (by omega)
  simp only [Option.some.injEq] at e
  subst e
  rw [Addr.add_mid]
  exact hc j u hu
theorem run_append_none {P : Program} (w : World) (t ty e : TypeId) (i : TypeInfo) (ht : P.underlying t = some (.slice e)) (hi : P.info? e = some i) (b : Addr) (n k : Nat) (hk : n ≤ k) (A : Option Addr) (c : Nat) :
    (Builtin.append_ #[t, t] ty #[.slice (some b) n k, .slice A 0 c]).run P w = .ok (.slice (some b) n k) w := by
  cases A with
  | none => simp [Builtin.append_, run_underlying ht, sizeOf, typeInfo, hi, Builtin.lenOf, Builtin.firstCells, storeCells, hk]
  | some a => simp [Builtin.append_, run_underlying ht, sizeOf, typeInfo, hi, Builtin.lenOf, Builtin.firstCells, loadCells, loadCellsFrom, storeCells, hk]

/-- A slice that came in, appended to one that is there. -/
theorem wpList_append_lies {w : World} {ops : Array Oper} {rest : List Oper} {o : Oper} {a : Act} {Q : Exit → Act → World → Prop} (hgd : o.guard = none) (s x : Operand)
    (ho : o.op = .call { callee := .builtin .append, args := #[s, x], argTypes := #[38, 38] })
    (base g k cap : Nat) (xs : List UInt8) (hs : a.eval s = .slice (some ⟨g, 0, none⟩) k cap) (hown : w.ownsRow base 5 1 (.slice (some ⟨g, 0, none⟩) k cap) k (xs.map bv))
    (A : Option Addr) (m c : Nat) (ys : List UInt8) (hx2 : a.eval x = .slice A m c)
    (hy : Lies w w.heap.size 1 A m c (ys.map bv)) (hbd : k + m ≤ 140737488355328) (hbase : base ≤ w.heap.size)
    (t : Nat) (ht : k + m = t) (zs : List UInt8) (hzs : xs ++ ys = zs)
    (h : ∀ g' cap' w', w'.ownsRow base 5 1 (.slice (some ⟨g', 0, none⟩) t cap') t (zs.map bv) → Below base w w' → wpList Tryd.prog ops Q rest (a.put o.dst (.slice (some ⟨g', 0, none⟩) t cap')) w') : wpList Tryd.prog ops Q (o :: rest) a w := by
  obtain ⟨i, hi, hz, hsz, hby⟩ := info_parts Wire.byte_info
  have hly := hy.len
  subst ht hzs
  refine wpList_plain hgd fun K hK => ?_
  have key : ∃ g' c' w', (Builtin.append_ #[38, 38] o.type #[.slice (some ⟨g, 0, none⟩) k cap, .slice A m c]).run Tryd.prog w = .ok (.slice (some ⟨g', 0, none⟩) (k + m) c') w' ∧ w'.ownsRow base 5 1 (.slice (some ⟨g', 0, none⟩) (k + m) c') (k + m) ((xs ++ ys).map bv) ∧ Below base w w' := by
    rcases Nat.eq_zero_or_pos m with h0 | h0
    · subst h0
      have hn : ys = [] := by simpa using hly
      subst hn
      have hkc : k ≤ cap := by
        rcases hown.2 with ⟨h1, _⟩ | ⟨g1, cap1, cur, h1, _, _, h2, _⟩
        · cases h1
        · cases h1; exact h2
      exact ⟨g, cap, w, run_append_none w _ _ _ i Tryd.underlying38 hi _ k cap hkc A c, by simpa using hown, Below.refl _ _⟩
    · obtain ⟨b2, o2, rfl, _, _⟩ := hy.cells h0
      obtain ⟨v', w', hr, ho', hg, _⟩ := run_append_own (P := Tryd.prog) (w := w) base 38 o.type 5 i (.int .u8 0) 1 1 Tryd.underlying38 hi hz hsz hby rfl (by decide) _ k (xs.map bv) hown ⟨b2, o2, none⟩ m c (ys.map bv) hly (lies_news hy) (Wire.bytes_one _) (by unfold maxLen; omega) (by omega) hbase
      obtain ⟨g', c', rfl, hl⟩ := Wire.own_form ho' (by omega)
      rw [← List.map_append] at ho'
      exact ⟨_, _, _, hr, ho', (Below.refl _ _).grown hg hbase (fun q hq => (hown.lt q hq).1)⟩
  obtain ⟨g', c', w', hr, hl, hb⟩ := key
  unfold Oper.wp execOp
  simp only [ho, resolve, invoke, builtin, Sem.run_bind, Sem.run_pure, Result.andThen_ok, List.map_toArray, List.map_cons, List.map_nil, hs, hx2, hr]
  exact hK _ _ (h g' c' w' hl hb)

def lenV : Value → Nat
  | .slice _ n _ => n
  | _ => 0

theorem own_lit0 (w : World) : (w.alloc (.cells #[] 5)).ownsRow w.heap.size 5 1 (.slice (some ⟨w.heap.size, 0, none⟩) 0 0) 0 (([] : List UInt8).map bv) :=
  ⟨rfl, .inr ⟨w.heap.size, 0, #[], rfl, Nat.le_refl _, heap_alloc_new w _, Nat.le_refl _, Nat.zero_le _, rfl, rfl⟩⟩
theorem len_byte (n i : Nat) (h : i < 8) : (8 * (n : Int) / 2 ^ (56 - 8 * i) % 256) = ((((lenBytes (8 * n)).getD i 0).toNat : Nat) : Int) := by
  have hu : ∀ m, ((u8 m).toNat : Int) = (m : Int) % 256 := by 
    intro m
    have : (u8 m).toNat = m % 256 := by simp [u8]
    omega
  have h0 : i = 0 ∨ i = 1 ∨ i = 2 ∨ i = 3 ∨ i = 4 ∨ i = 5 ∨ i = 6 ∨ i = 7 := by omega
  rcases h0 with rfl | rfl | rfl | rfl | rfl | rfl | rfl | rfl <;> simp [lenBytes, hu]
theorem len_more (n i : Nat) (h : i < 8) : (lenBytes (8 * n)).take i ++ [(lenBytes (8 * n)).getD i 0] = (lenBytes (8 * n)).take (i + 1) := by
  have hl : (lenBytes (8 * n)).length = 8 := rfl
  rw [List.take_add_one, List.getElem?_eq_getElem (by omega)]
  simp [List.getD, hl, h]
theorem pad_at0 (x : List UInt8) : x.map bv ++ [.int .u8 128] = (x ++ 128 :: zeros 0).map bv := by simp [zeros, bv]
theorem pad_more (x : List UInt8) (j : Nat) : (x ++ 128 :: zeros j).map bv ++ [.int .u8 0] = (x ++ 128 :: zeros (j + 1)).map bv := by
  have : zeros (j + 1) = zeros j ++ [0] := by simp [zeros, List.replicate_succ']
  rw [this]
  simp [bv]

set_option maxRecDepth 100000 in
set_option maxHeartbeats 1000000 in
theorem padded_any (x : List UInt8) (n c : Nat) (A : Option Addr) (w : World) (hl : Lies w w.heap.size 1 A n c (x.map bv)) (hx : x.length ≤ 1000000) :
    Calls Tryd.prog 78 #[.slice A n c] w (Made w (pad x).length (pad x)) := by
  obtain ⟨i0, hi, hz0, hz1, hz2⟩ := info_parts Wire.byte_info
  have hn : x.length = n := by have := hl.len; simpa using this
  rw [hn] at hx
  have hb0 : Below w.heap.size w (w.alloc (.cells #[] 5)) := (Below.refl _ _).alloc (Nat.le_refl _) _
  have hl0 := lies_on hl hb0
  have ho0 := own_lit0 w
  obtain ⟨G, hG⟩ : ∃ G, G = gap n := ⟨_, rfl⟩
  have hG1 : G < 64 := by rw [hG]; unfold gap; omega
  have hG2 : ∀ j, j < G → (n + 1 + j) % 64 ≠ 56 := by intro j hj; rw [hG] at hj; unfold gap at hj; omega
  have hG3 : (n + 1 + G) % 64 = 56 := by rw [hG]; unfold gap; omega
  have HG := Lib.hid hG
  have HG2 := Lib.hid hG2
  have HG3 := Lib.hid hG3
  have HN := Lib.hid hn
  clear hG hG2 hG3 hl hn
  go_enter Tryd.func78, Tryd.ntmps78
  go_wp2_with (first
    | (at_builtin; refine wpList_append_lies rfl (.tmp 6) (.tmp 7) rfl w.heap.size w.heap.size 0 0 [] rfl ho0 A n c x rfl hl0 (by omega) hb0.size n (Nat.zero_add n) x rfl ?_; intro g1 c1 w1 ho1 hb1; replace hb1 := hb0.trans hb1; clear ho0 hl0 hb0)
    | (at_builtin; refine wpList_append_own _ rfl (.tmp 9) (.tmp 10) _ rfl w.heap.size 5 i0 (.int .u8 0) 1 1 Tryd.underlying38 hi hz0 hz1 hz2 rfl (by decide) _ n _ rfl (ho1.alloc _) ⟨w1.heap.size, 0, none⟩ 1 1 [.int .u8 128] rfl rfl (Wire.fresh_one _ _ _) (by simp [Value.oneCell']) (by unfold maxLen; omega) (by omega) (by have := hb1.size; simp; omega) ?_; intro v2 w2 ho2 hg2 _; rw [pad_at0] at ho2; replace hb1 := (hb1.alloc hb1.size _).grown hg2 (by have := hb1.size; simp; omega) (fun k hk => (ho1.lt k hk).1); clear hg2 ho1))
  go_loopw [3] (fun v wr => ∃ (j L : Nat), j ≤ G ∧ L = n + 1 + j ∧ wr.ownsRow w.heap.size 5 1 v L ((x ++ 128 :: zeros j).map bv) ∧ Below w.heap.size w wr) (fun v _ => G + n + 1 - lenV v)
  case atStart => exact ⟨0, _, by omega, rfl, ho2, hb1⟩
  case round =>
    obtain ⟨j, L, hj, hL, hown, hb⟩ := hrel
    obtain ⟨g, cap, rfl, _⟩ := Wire.own_form hown (by omega)
    clear ho2 hb1
    rcases Nat.lt_or_ge j G with hlt | hge
    · have hm := HG2.out j hlt
      rw [← hL] at hm
      have hm2 : ¬ ((L : Int) % 64 = 56) := by omega
      have hL2 : L ≤ 1000100 := by omega
      have fin : ∀ v' w', w'.ownsRow w.heap.size 5 1 v' (L + 1) ((x ++ 128 :: zeros j).map bv ++ [.int .u8 0]) → (wr.alloc (.cells #[.int .u8 0] 5)).grownBy w' (some g) →
          ∃ (j L : Nat), j ≤ G ∧ L = n + 1 + j ∧ w'.ownsRow w.heap.size 5 1 v' L ((x ++ 128 :: zeros j).map bv) ∧ Below w.heap.size w w' := by
        intro v' w' h1 h2
        exact ⟨j + 1, L + 1, by omega, by omega, by rw [← pad_more]; exact h1, (hb.alloc hb.size _).grown h2 (by have := hb.size; simp; omega) (fun k hk => (hown.lt k hk).1)⟩
      have FIN := Lib.hid fin
      have hLG : L < G + n + 1 := by omega
      clear fin hL hm hlt hj
      go_wp2_with (at_builtin; refine wpList_append_own _ rfl (.tmp 16) (.tmp 17) _ rfl w.heap.size 5 i0 (.int .u8 0) 1 1 Tryd.underlying38 hi hz0 hz1 hz2 rfl (by decide) _ L _ rfl (hown.alloc _) ⟨wr.heap.size, 0, none⟩ 1 1 [.int .u8 0] rfl rfl (Wire.fresh_one _ _ _) (by simp [Value.oneCell']) (by unfold maxLen; omega) (by omega) (by have := hb.size; simp; omega) ?_; intro v4 w4 ho4 hg4 _)
      go_roundw
      case rel => exact FIN.out _ _ ho4 hg4
      case measure =>
        obtain ⟨g4, c4, rfl, _⟩ := Wire.own_form ho4 (by omega)
        simp [lenV]; omega
    · have hjG : j = G := by omega
      subst hjG
      have hm := HG3.out
      rw [← hL] at hm
      have hm2 : ((L : Int) % 64 = 56) := by omega
      have HL := Lib.hid hL
      have hL2 : L ≤ 1000100 := by omega
      clear hL hm hge hj
      obtain ⟨M, hM⟩ : ∃ M, M = x ++ 128 :: zeros j := ⟨_, rfl⟩
      rw [← hM] at hown
      obtain ⟨lb, hlb⟩ : ∃ lb, lb = lenBytes (8 * n) := ⟨_, rfl⟩
      have hll : lb.length = 8 := by rw [hlb]; rfl
      have hpad : pad x = M ++ lb := by rw [hM, hlb, pad, HN.out, ← HG.out]
      have hML : M.length = L := by have := hown.1; simpa using this
      have HM := Lib.hid hM
      have HLB := Lib.hid hlb
      have HLL := Lib.hid hll
      have HP := Lib.hid hpad
      have HML := Lib.hid hML
      clear hM hlb hll hpad hML
      go_wp2
      have hL0 : 0 < L := by omega
      clear hm2
      go_loopw [3, 5] (fun v iv wq => ∃ (i T : Nat), i ≤ 8 ∧ T = L + i ∧ iv = .int .i64 (i : Int) ∧ wq.ownsRow w.heap.size 5 1 v T ((M ++ lb.take i).map bv) ∧ Below w.heap.size w wq) (fun _ iv _ => (8 - intOf iv).toNat)
      case atStart => exact ⟨0, L, by omega, rfl, rfl, by simpa using hown, hb⟩
      case round =>
        clear hown hb
        obtain ⟨i, T, hi8, hT, rfl, hown, hb⟩ := hrel
        obtain ⟨g, cap, rfl, _⟩ := Wire.own_form hown (by omega)
        rcases Nat.lt_or_ge i 8 with hlt | hge
        · have z1 : (i : Int) < 8 := by omega
          have z0 : (0 : Int) ≤ (i : Int) := by omega
          have hT2 : T ≤ 1000200 := by omega
          have fin : ∀ v' w', w'.ownsRow w.heap.size 5 1 v' (T + 1) ((M ++ lb.take i).map bv ++ [.int .u8 (8 * (n : Int) / 2 ^ (56 - 8 * i) % 256)]) → (wr.alloc (.cells #[.int .u8 (8 * (n : Int) / 2 ^ (56 - 8 * i) % 256)] 5)).grownBy w' (some g) →
              ∃ (k T : Nat), k ≤ 8 ∧ T = L + k ∧ Value.int .i64 ((i : Int) + 1) = .int .i64 (k : Int) ∧ w'.ownsRow w.heap.size 5 1 v' T ((M ++ lb.take k).map bv) ∧ Below w.heap.size w w' := by
            intro v' w' h1 h2
            refine ⟨i + 1, T + 1, by omega, by omega, by go_num, ?_, (hb.alloc hb.size _).grown h2 (by have := hb.size; simp; omega) (fun k hk => (hown.lt k hk).1)⟩
            rw [len_byte n i hlt, ← HLB.out] at h1
            have e := len_more n i hlt
            rw [← HLB.out] at e
            rw [← e, ← List.append_assoc]
            simpa [bv] using h1
          have FIN := Lib.hid fin
          clear fin hT hlt hi8
          go_wp2_with (at_builtin; refine wpList_append_own _ rfl (.tmp 27) (.tmp 34) _ rfl w.heap.size 5 i0 (.int .u8 0) 1 1 Tryd.underlying38 hi hz0 hz1 hz2 rfl (by decide) _ T _ rfl (hown.alloc _) ⟨wr.heap.size, 0, none⟩ 1 1 [.int .u8 (8 * (n : Int) / 2 ^ (56 - 8 * i) % 256)] rfl rfl (Wire.fresh_one _ _ _) (by simp [Value.oneCell']) (by unfold maxLen; omega) (by omega) (by have := hb.size; simp; omega) ?_; intro v4 w4 ho4 hg4 _)
          go_roundw
          case rel => exact FIN.out _ _ ho4 hg4
          case measure => simp [intOf]; omega
        · have hi8 : i = 8 := by omega
          have z1 : ¬ (i : Int) < 8 := by omega
          have hend : Made w (pad x).length (pad x) (.returned (.slice (some ⟨g, 0, none⟩) T cap)) wr := by
            rw [List.take_of_length_le (by rw [HLL.out]; omega), ← HP.out] at hown
            have hTl : (pad x).length = T := by rw [HP.out, List.length_append, HML.out, HLL.out]; omega
            rw [hTl]
            exact ⟨g, cap, rfl, hown, hb⟩
          have HE := Lib.hid hend
          clear hend hT hge hi8 hown hb
          go_wp2
          go_ret
          exact HE.out

end Hash
end Go.Proofs.YthpkeaafgabjiaaDoor

/- The words of a block, of the reference: the block is a slice. No condition but its length. -/
namespace Go.Proofs.YthpkeaafgabjiaaDoor
open Go.RowKit
namespace Hash

/-- The words so far lie in the second new block; the block where it was. -/
structure RefW (w wr : World) (gb ob : Nat) (b : List UInt8) (r : List Nat) : Prop where
  blk : ∀ (i : Nat) (x : UInt8), b[i]? = some x → wr.cell? ⟨gb, ob + i, none⟩ = some (Wire.bv x)
  old : gb < w.heap.size
  res : Arr wr w.heap.size 64 (zw 64)
  wds : Arr wr (w.heap.size + 1) 64 (r.reverse.map wv ++ zw (64 - r.length))
  below : Below w.heap.size w wr
  most : r.length ≤ 64
theorem RefW.drewN {w wr : World} {gb ob : Nat} {b : List UInt8} {r : List Nat} (h : RefW w wr gb ob b r) (k : Nat) : RefW w (wr.drewN k) gb ob b r :=
  ⟨h.blk, h.old, h.res.drew k, h.wds.drew k, ⟨h.below.os, h.below.tape, h.below.output, h.below.size, h.below.block⟩, h.most⟩
theorem RefW.drew {w wr : World} {gb ob : Nat} {b : List UInt8} {r : List Nat} (h : RefW w wr gb ob b r) : RefW w wr.drew gb ob b r := h.drewN 1
theorem RefW.put {w wr : World} {gb ob : Nat} {b : List UInt8} {r : List Nat} {k : Nat} (h : RefW w wr gb ob b r) (hl : r.length = k) (hk : k < 64) (y : Nat) : RefW w (wr.setCell ⟨w.heap.size + 1, k, none⟩ (wv y)) gb ob b (y :: r) := by
  have hw := h.wds.set (i := k) hk (wv y)
  rw [wds_put hl hk y] at hw
  have hb2 : Below w.heap.size w (wr.setCell ⟨w.heap.size + 1, k, none⟩ (wv y)) := h.below.setCell (by simp) _
  exact ⟨fun i x hx => (((hb2.cell (p := ⟨gb, ob + i, none⟩) h.old).trans (h.below.cell (p := ⟨gb, ob + i, none⟩) h.old).symm).trans (h.blk i x hx)), h.old, h.res.other (by omega) _, hw, hb2, by simp; omega⟩
theorem refw_start (w : World) (gb ob : Nat) (b : List UInt8) (hg : gb < w.heap.size) (hb : ∀ (i : Nat) (x : UInt8), b[i]? = some x → w.cell? ⟨gb, ob + i, none⟩ = some (Wire.bv x)) (c1 c2 : Array Value) (h1 : c1.toList = zw 64) (h2 : c2.toList = zw 64) (t2 t3 : TypeId) :
    RefW w ((w.alloc (.cells c1 t2)).alloc (.cells c2 t3)) gb ob b [] := by
  have s1 : c1.size = 64 := by rw [← Array.length_toList, h1]; rfl
  have s2 : c2.size = 64 := by rw [← Array.length_toList, h2]; rfl
  have hbl : Below w.heap.size w ((w.alloc (.cells c1 t2)).alloc (.cells c2 t3)) := ((Below.refl _ _).alloc (Nat.le_refl _) _).alloc (by simp) _
  refine ⟨fun i x hx => (hbl.cell (p := ⟨gb, ob + i, none⟩) hg).trans (hb i x hx), hg, ?_, ?_, hbl, by simp⟩
  · have h := (arr_new w c1 t2).alloc (by simp) (.cells c2 t3)
    rw [s1, h1] at h
    simpa using h
  · have h := arr_new (w.alloc (.cells c1 t2)) c2 t3
    rw [s2, h2] at h
    simpa using h
theorem wordR_at {w wr : World} {gb ob : Nat} {b : List UInt8} {r : List Nat} {t i j : Nat} (h : RefW w wr gb ob b r) (hl : r.length = t) (hb : ∀ x ∈ r, x < 4294967296) (hij : i + j + 1 = t) :
    ∃ x, r.getD j 0 = x ∧ wr.cell? ⟨w.heap.size + 1, i, none⟩ = some (wv x) ∧ x < 4294967296 := by
  have hj : j < r.length := by omega
  refine ⟨r[j], by rw [List.getD_eq_getElem?_getD, List.getElem?_eq_getElem hj]; rfl, (h.wds.at_ (i := i) ?_).1, hb _ (List.getElem_mem hj)⟩
  rw [List.getElem?_append_left (by simp; omega), List.getElem?_map, List.getElem?_reverse (by omega), show r.length - 1 - i = j by omega, List.getElem?_eq_getElem hj]
  rfl

theorem nxtR_steps (u x v z : Nat) (_lu : u < 4294967296) (lx : x < 4294967296) (_lv : v < 4294967296) (lz : z < 4294967296) :
    ∃ p7 p18 s1 d1 s2 a1 a2 p17 p19 s3 d2 s4 y : Nat,
      (∀ W, Calls Tryd.prog 80 #[.int .u32 (x : Int), .int .i64 7] W fun e w' => e = .returned (.int .u32 (p7 : Int)) ∧ ∃ k, w' = W.drewN k) ∧
      (∀ W, Calls Tryd.prog 80 #[.int .u32 (x : Int), .int .i64 18] W fun e w' => e = .returned (.int .u32 (p18 : Int)) ∧ ∃ k, w' = W.drewN k) ∧
      (∀ W, Calls Tryd.prog 80 #[.int .u32 (z : Int), .int .i64 17] W fun e w' => e = .returned (.int .u32 (p17 : Int)) ∧ ∃ k, w' = W.drewN k) ∧
      (∀ W, Calls Tryd.prog 80 #[.int .u32 (z : Int), .int .i64 19] W fun e w' => e = .returned (.int .u32 (p19 : Int)) ∧ ∃ k, w' = W.drewN k) ∧
      bits .xor .u32 (p7 : Int) (p18 : Int) = (s1 : Int) ∧ (x : Int) / 8 = (d1 : Int) ∧ bits .xor .u32 (s1 : Int) (d1 : Int) = (s2 : Int) ∧ IntKind.u32.wrap ((u : Int) + (s2 : Int)) = (a1 : Int) ∧ IntKind.u32.wrap ((a1 : Int) + (v : Int)) = (a2 : Int) ∧
      bits .xor .u32 (p17 : Int) (p19 : Int) = (s3 : Int) ∧ (z : Int) / 1024 = (d2 : Int) ∧ bits .xor .u32 (s3 : Int) (d2 : Int) = (s4 : Int) ∧ IntKind.u32.wrap ((a2 : Int) + (s4 : Int)) = (y : Int) ∧ y = add (add (add u (sm0 x)) v) (sm1 z) ∧ y < 4294967296 :=
  ⟨rotr x 7, rotr x 18, _, x / 8, _, _, _, rotr z 17, rotr z 19, _, z / 1024, _, _,
    fun W => refRotr_any x 7 W lx (by omega) (by omega), fun W => refRotr_any x 18 W lx (by omega) (by omega),
    fun W => refRotr_any z 17 W lz (by omega) (by omega), fun W => refRotr_any z 19 W lz (by omega) (by omega),
    xor32 (rotr_lt 7 lx) (rotr_lt 18 lx), rfl, xor32 (xor_lt (rotr_lt 7 lx) (rotr_lt 18 lx)) (div_lt 8 lx), add32 _ _, add32 _ _,
    xor32 (rotr_lt 17 lz) (rotr_lt 19 lz), rfl, xor32 (xor_lt (rotr_lt 17 lz) (rotr_lt 19 lz)) (div_lt 1024 lz), add32 _ _, rfl, add_lt _ _⟩

set_option maxRecDepth 100000 in
set_option maxHeartbeats 1000000 in
theorem words_any (b : List UInt8) (gb ob c : Nat) (w : World) (hb : b.length = 64) (hg : gb < w.heap.size) (hbs : ∀ (i : Nat) (x : UInt8), b[i]? = some x → w.cell? ⟨gb, ob + i, none⟩ = some (Wire.bv x)) :
    Calls Tryd.prog 79 #[.slice (some ⟨gb, ob, none⟩) 64 c] w (GivesA ((ws b).map wv) w) := by
  have HB := Lib.hid hb; clear hb
  have HG0 := Lib.hid hg; clear hg
  have HBS := Lib.hid hbs; clear hbs
  go_enter Tryd.func79, Tryd.ntmps79
  go_wp2
  go_loopw [4] (fun iv wr => ∃ (k : Nat), k ≤ 16 ∧ iv = .int .i64 (k : Int) ∧ RefW w wr gb ob b (firsts b k)) (fun iv _ => (16 - intOf iv).toNat)
  case atStart =>
    exact ⟨0, by omega, rfl, refw_start w gb ob b HG0.out HBS.out _ _ rfl rfl _ _⟩
  case round =>
    obtain ⟨k, hk, rfl, hr⟩ := hrel
    by_cases hlt : k < 16
    · obtain ⟨x0, h0⟩ : ∃ x, b[4 * k]? = some x := ⟨_, List.getElem?_eq_getElem (by have := HB.out; omega)⟩
      obtain ⟨x1, h1⟩ : ∃ x, b[4 * k + 1]? = some x := ⟨_, List.getElem?_eq_getElem (by have := HB.out; omega)⟩
      obtain ⟨x2, h2⟩ : ∃ x, b[4 * k + 2]? = some x := ⟨_, List.getElem?_eq_getElem (by have := HB.out; omega)⟩
      obtain ⟨x3, h3⟩ : ∃ x, b[4 * k + 3]? = some x := ⟨_, List.getElem?_eq_getElem (by have := HB.out; omega)⟩
      have hword := word_of h0 h1 h2 h3
      have c0 := hr.blk (4 * k) x0 h0
      have c1 := hr.blk (4 * k + 1) x1 h1
      have c2 := hr.blk (4 * k + 2) x2 h2
      have c3 := hr.blk (4 * k + 3) x3 h3
      clear h0 h1 h2 h3
      have e0 : IntKind.i64.wrap (4 * (k : Int)) = ((4 * k : Nat) : Int) := by rw [IntWalk.i64_in _ (by omega)]; omega
      have e1 : IntKind.i64.wrap (((4 * k : Nat) : Int) + 1) = ((4 * k + 1 : Nat) : Int) := by rw [IntWalk.i64_in _ (by omega)]; omega
      have e2 : IntKind.i64.wrap (((4 * k : Nat) : Int) + 2) = ((4 * k + 2 : Nat) : Int) := by rw [IntWalk.i64_in _ (by omega)]; omega
      have e3 : IntKind.i64.wrap (((4 * k : Nat) : Int) + 3) = ((4 * k + 3 : Nat) : Int) := by rw [IntWalk.i64_in _ (by omega)]; omega
      obtain ⟨m0, m1, m2, n1, n2, v0, v1, v2, o1, o2, o3, hy⟩ := word_steps hword
      obtain ⟨y, hyw⟩ : ∃ y, y = word b k := ⟨_, rfl⟩
      rw [← hyw] at o3 hy
      have HW := Lib.hid hyw; clear hyw hword
      obtain ⟨p1, hp1⟩ : ∃ p, p = 4 * k + 1 := ⟨_, rfl⟩
      obtain ⟨p2, hp2⟩ : ∃ p, p = 4 * k + 2 := ⟨_, rfl⟩
      obtain ⟨p3, hp3⟩ : ∃ p, p = 4 * k + 3 := ⟨_, rfl⟩
      obtain ⟨p0, hp0⟩ : ∃ p, p = 4 * k := ⟨_, rfl⟩
      rw [← hp1] at c1 e1
      rw [← hp2] at c2 e2
      rw [← hp3] at c3 e3
      rw [← hp0] at c0 e0 e1 e2 e3
      have z0 : (0 : Int) ≤ (p0 : Int) := by omega
      have z1 : (p0 : Int) < 64 := by omega
      have z2 : (0 : Int) ≤ (p1 : Int) := by omega
      have z3 : (p1 : Int) < 64 := by omega
      have z4 : (0 : Int) ≤ (p2 : Int) := by omega
      have z5 : (p2 : Int) < 64 := by omega
      have z6 : (0 : Int) ≤ (p3 : Int) := by omega
      have z7 : (p3 : Int) < 64 := by omega
      have z8 : (0 : Int) ≤ (k : Int) := by omega
      have z9 : (k : Int) < 64 := by omega
      have w0 := wrap_u8 x0
      have w1 := wrap_u8 x1
      have w2 := wrap_u8 x2
      have w3 := wrap_u8 x3
      clear hp0 hp1 hp2 hp3
      unfold Wire.bv at c0 c1 c2 c3
      have hr2 := hr.drew
      have hfin : ∀ w2, RefW w w2 gb ob b (firsts b k) → RefW w (w2.setCell ⟨w.heap.size + 1, k, none⟩ (.int .u32 (y : Int))) gb ob b (firsts b (k + 1)) := fun w2 h2 => by
        rw [show firsts b (k + 1) = y :: firsts b k by rw [HW.out]; rfl]
        exact h2.put (firsts_length b k) (by omega) y
      have HF := Lib.hid hfin; clear hfin
      go_wp2
      go_still_tail 34, (by kernel_rfl)
      change wpList _ _ _ _ _ wr.drew
      revert hr2
      generalize wr.drew = w2
      intro hr2
      obtain ⟨q1, q2⟩ := hr2.wds.at_ (i := k) (u := wv 0) (wds_at (firsts_length b k) (by omega))
      clear c0 c1 c2 c3 hr
      unfold wv at q1
      go_wp2
      go_roundw
      case rel => exact ⟨k + 1, by omega, by go_num, HF.out _ hr2⟩
      case measure => simp [intOf]; omega
    · have hk16 : k = 16 := by omega
      have hr0 : RefW w wr gb ob b (sch b 0) := by rw [hk16] at hr; exact hr
      have z16 : ¬ (k : Int) < 16 := by omega
      clear hr hk16 hlt hk
      go_wp2
      go_loopw [5] (fun iv wq => ∃ (j : Nat), j ≤ 48 ∧ iv = .int .i64 (((16 + j : Nat) : Nat) : Int) ∧ RefW w wq gb ob b (sch b j)) (fun iv _ => (64 - intOf iv).toNat)
      case atStart => exact ⟨0, by omega, rfl, hr0⟩
      case round =>
        obtain ⟨j, hj, rfl, hq⟩ := hrel
        clear hr0
        obtain ⟨t, ht⟩ : ∃ t, t = 16 + j := ⟨_, rfl⟩
        rw [← ht]
        have HT := Lib.hid ht
        by_cases hjt : j < 48
        · have ht1 : 16 ≤ t := by omega
          have ht2 : t < 64 := by omega
          clear ht
          obtain ⟨r, hrs⟩ : ∃ r, r = sch b j := ⟨_, rfl⟩
          have hrl : r.length = t := by rw [hrs, sch_length, HT.out]
          have hrb : ∀ x ∈ r, x < 4294967296 := by rw [hrs]; exact sch_lt b j
          have hsn : sch b (j + 1) = nxt r :: r := by rw [hrs]; rfl
          rw [← hrs] at hq
          obtain ⟨x, g14, c14, l14⟩ := wordR_at hq hrl hrb (i := t - 15) (j := 14) (by omega)
          obtain ⟨z, g1, c1, l1⟩ := wordR_at hq hrl hrb (i := t - 2) (j := 1) (by omega)
          obtain ⟨u, g15, c15, l15⟩ := wordR_at hq hrl hrb (i := t - 16) (j := 15) (by omega)
          obtain ⟨v, g6, c6, l6⟩ := wordR_at hq hrl hrb (i := t - 7) (j := 6) (by omega)
          have hnx := nxt_of g15 g14 g6 g1
          obtain ⟨p7, p18, s1, d1, s2, a1, a2, p17, p19, s3, d2, s4, y, cc7, cc18, cc17, cc19, e1, e2, e3, e4, e5, e6, e7, e8, e9, hy, hyl⟩ := nxtR_steps u x v z l15 l14 l6 l1
          have HN := Lib.hid (hy.trans hnx.symm)
          have HS := Lib.hid hsn
          have HR := Lib.hid hrl
          have f0 : IntKind.i64.wrap ((t : Int) - 15) = ((t - 15 : Nat) : Int) := by rw [IntWalk.i64_in _ (by omega)]; omega
          have f1 : IntKind.i64.wrap ((t : Int) - 2) = ((t - 2 : Nat) : Int) := by rw [IntWalk.i64_in _ (by omega)]; omega
          have f2 : IntKind.i64.wrap ((t : Int) - 16) = ((t - 16 : Nat) : Int) := by rw [IntWalk.i64_in _ (by omega)]; omega
          have f3 : IntKind.i64.wrap ((t : Int) - 7) = ((t - 7 : Nat) : Int) := by rw [IntWalk.i64_in _ (by omega)]; omega
          obtain ⟨t15, h15⟩ : ∃ p, p = t - 15 := ⟨_, rfl⟩
          obtain ⟨t2, h2⟩ : ∃ p, p = t - 2 := ⟨_, rfl⟩
          obtain ⟨t16, h16⟩ : ∃ p, p = t - 16 := ⟨_, rfl⟩
          obtain ⟨t7, h7⟩ : ∃ p, p = t - 7 := ⟨_, rfl⟩
          rw [← h15] at f0 c14
          rw [← h2] at f1 c1
          rw [← h16] at f2 c15
          rw [← h7] at f3 c6
          have z0 : (0 : Int) ≤ (t15 : Int) := by omega
          have z1 : (t15 : Int) < 64 := by omega
          have z2 : (0 : Int) ≤ (t2 : Int) := by omega
          have z3 : (t2 : Int) < 64 := by omega
          have z4 : (0 : Int) ≤ (t16 : Int) := by omega
          have z5 : (t16 : Int) < 64 := by omega
          have z6 : (0 : Int) ≤ (t7 : Int) := by omega
          have z7 : (t7 : Int) < 64 := by omega
          have z8 : (0 : Int) ≤ (t : Int) := by omega
          have z9 : (t : Int) < 64 := by omega
          clear h15 h2 h16 h7 hy hnx hsn hrl hrb hrs g15 g14 g6 g1
          unfold wv at c14 c1 c15 c6
          go_wp2
          go_quiet ((first
            | (with_reducible exact Calls.quiet_of (cc7 _))
            | (with_reducible exact Calls.quiet_of (cc18 _))))
          go_wp2
          have hq2 := hq.drewN nq
          have d15 : (wr.drewN nq).cell? ⟨w.heap.size + 1, t16, none⟩ = some (.int .u32 (u : Int)) := c15
          have d6 : (wr.drewN nq).cell? ⟨w.heap.size + 1, t7, none⟩ = some (.int .u32 (v : Int)) := c6
          have d1' : (wr.drewN nq).cell? ⟨w.heap.size + 1, t2, none⟩ = some (.int .u32 (z : Int)) := c1
          clear c14 c1 c15 c6 hq
          revert hq2 d15 d6 d1'
          generalize wr.drewN nq = w3
          intro hq2 d15 d6 d1'
          clear nq
          go_quiet ((first
            | (with_reducible exact Calls.quiet_of (cc17 _))
            | (with_reducible exact Calls.quiet_of (cc19 _))))
          go_wp2
          replace hq2 := hq2.drewN nq
          replace d15 : (w3.drewN nq).cell? ⟨w.heap.size + 1, t16, none⟩ = some (.int .u32 (u : Int)) := d15
          replace d6 : (w3.drewN nq).cell? ⟨w.heap.size + 1, t7, none⟩ = some (.int .u32 (v : Int)) := d6
          clear d1'
          revert hq2 d15 d6
          generalize w3.drewN nq = w4
          intro hq2 d15 d6
          replace hq2 := hq2.drew
          go_still_tail 14, (by kernel_rfl)
          change wpList _ _ _ _ _ w4.drew
          clear d15 d6
          revert hq2
          generalize w4.drew = w2
          intro hq2
          obtain ⟨q1, q2⟩ := hq2.wds.at_ (i := t) (u := wv 0) (wds_at HR.out (by omega))
          unfold wv at q1
          have hfin : RefW w (w2.setCell ⟨w.heap.size + 1, t, none⟩ (.int .u32 (y : Int))) gb ob b (sch b (j + 1)) := by
            rw [HS.out, ← HN.out]
            exact hq2.put HR.out (by omega) y
          have HF := Lib.hid hfin; clear hfin
          go_wp2
          go_roundw
          case rel => exact ⟨j + 1, by omega, congrArg (Value.int .i64) (by have := HT.out; omega), HF.out⟩
          case measure => simp [intOf]; omega
        · obtain rfl : j = 48 := by omega
          obtain rfl : t = 64 := HT.out
          have hrg : wr.rangeAt (w.heap.size + 1) 0 ((ws b).map wv) := by
            have h := hq.wds.range
            rwa [show 64 - (sch b 48).length = 0 by rw [sch_length], show zw 0 = [] from rfl, List.append_nil] at h
          have hth : wr.there w.heap.size 0 64 := hq.res.there
          have hsz : ((ws b).map wv).length = 64 := by simp [ws, sch_length]
          have hv : Tryd.prog.underlying 113 = some (.array 64 95) := by kernel_rfl
          have hi : (Tryd.prog.info? 113).map (·.size) = some ((ws b).map wv).length := by rw [hsz]; kernel_rfl
          have hi2 : (Tryd.prog.info? 113).map (·.size) = some ((ws b).map wv).toArray.size := by rw [List.size_toArray]; exact hi
          have hsz2 : ((ws b).map wv).toArray.size = 64 := by simp [ws, sch_length]
          have hth2 : wr.there w.heap.size 0 ((ws b).map wv).toArray.size := by rw [hsz2]; exact hth
          have hend := arr_end (w := w) (wr := wr) (g := w.heap.size) (xs := (ws b).map wv) 113 hq.below (by omega) (by rw [hsz]; exact hth) hv rfl hi
          have HG := Lib.hid hrg
          have HTH := Lib.hid hth2
          have HE := Lib.hid hend
          have HV := Lib.hid hv
          have HI := Lib.hid hi
          have HI2 := Lib.hid hi2
          clear hrg hth hth2 hsz hsz2 hq hend hv hi hi2
          go_wp2_with (first
            | ((with_reducible refine at_slot 100 rfl ?_); refine wpList_load_mid rfl 113 (.tmp 3) rfl (w.heap.size + 1) 0 rfl ((ws b).map wv) _ HG.out HV.out rfl HI.out ?_)
            | ((with_reducible refine at_store 113 (.tmp 2) (.tmp 100) rfl ?_); refine wpList_store_mid rfl 113 (.tmp 2) (.tmp 100) rfl w.heap.size 0 ((ws b).map wv).toArray rfl rfl HTH.out HI2.out (words_one _) ?_))
          refine bodyPost_ret (v := .agg ((ws b).map wv).toArray) ?_ rfl ⟨rfl, HE.out.2⟩
          simp [results, Tryd.results79, asAddr]
          rw [HE.out.1]

end Hash
end Go.Proofs.YthpkeaafgabjiaaDoor

/- The reference's Sum. Condition: the table of round constants reads as the program lays it; at most a million bytes. -/
namespace Go.Proofs.YthpkeaafgabjiaaDoor
open Go.RowKit
namespace Hash
open Wire (Lies)

structure RefA (w W : World) (gT : Nat) (A : Option Addr) (n c : Nat) (x : List UInt8) : Prop where
  res : Arr W w.heap.size 32 z32.toList
  wds : Arr W (w.heap.size + 1) 8 (h0.map wv)
  tab : Table gT W
  arg : Lies W W.heap.size 1 A n c (x.map Wire.bv)
  size : W.heap.size = w.heap.size + 2
  below : Below w.heap.size w W
  low : gT < w.heap.size
theorem refA_start {w : World} {gT n c : Nat} {A : Option Addr} {x : List UInt8} (hl : Lies w w.heap.size 1 A n c (x.map Wire.bv)) (ht : Table gT w) (cs : Array Value) (hcs : cs.toList = h0.map wv) (t1 t2 : TypeId) :
    RefA w ((w.alloc (.cells z32 t1)).alloc (.cells cs t2)) gT A n c x := by
  have hb : Below w.heap.size w ((w.alloc (.cells z32 t1)).alloc (.cells cs t2)) := ((Below.refl _ _).alloc (Nat.le_refl _) _).alloc (by simp) _
  have s1 : cs.size = 8 := by rw [← Array.length_toList, hcs]; rfl
  refine ⟨?_, ?_, tabj ht hb, lies_on hl hb, by simp, hb, ht.size⟩
  · have h := (arr_new w z32 t1).alloc (by simp) (.cells cs t2)
    rwa [z32_size] at h
  · have h := arr_new (w.alloc (.cells z32 t1)) cs t2
    rw [s1, hcs] at h
    simpa using h

/-- Between two blocks: the words so far, the padded message, the result's place. -/
structure RefS (w wr : World) (gT gM : Nat) (m : List UInt8) (hs : List Nat) : Prop where
  res : Arr wr w.heap.size 32 z32.toList
  wds : Arr wr (w.heap.size + 1) 8 (hs.map wv)
  msg : ∀ (i : Nat) (x : UInt8), m[i]? = some x → wr.cell? ⟨gM, i, none⟩ = some (Wire.bv x)
  far : w.heap.size + 2 ≤ gM ∧ gM < wr.heap.size
  tab : Table gT wr
  below : Below w.heap.size w wr
  low : gT < w.heap.size
theorem refS_start {w W w1 : World} {gT n c gM cap l : Nat} {A : Option Addr} {x m : List UInt8} (h : RefA w W gT A n c x) (hm : m.length = l) (hown : w1.ownsRow W.heap.size 5 1 (.slice (some ⟨gM, 0, none⟩) l cap) l (m.map Wire.bv)) (hb : Below W.heap.size W w1) :
    RefS w w1 gT gM m h0 := by
  have hsz := h.size
  have hg : w.heap.size + 2 ≤ gM ∧ gM < w1.heap.size := by
    have := hown.lt gM rfl
    omega
  refine ⟨h.res.below hb (by omega), h.wds.below hb (by omega), fun i y hy => ?_, hg, tabj h.tab hb, bcj h.below hb, h.low⟩
  have hi : i < m.length := (List.getElem?_eq_some_iff.1 hy).1
  rw [hown.cellAt i (by omega), List.getElem?_map, hy]
  rfl
theorem RefS.on {w wr w2 : World} {gT gM : Nat} {m : List UInt8} {hs : List Nat} (h : RefS w wr gT gM m hs) (hb : Below wr.heap.size wr w2) : RefS w w2 gT gM m hs :=
  ⟨h.res.below hb (h.res.size (by omega)), h.wds.below hb (h.wds.size (by omega)), fun i x hx => (hb.cell (p := ⟨gM, i, none⟩) h.far.2).trans (h.msg i x hx), ⟨h.far.1, Nat.lt_of_lt_of_le h.far.2 hb.size⟩, tabj h.tab hb, bcj h.below hb, h.low⟩
/-- In a block: its schedule too. -/
structure RefQ (w W : World) (gT gM gW : Nat) (m : List UInt8) (hs : List Nat) (ss : List Nat) : Prop where
  base : RefS w W gT gM m hs
  sch : Arr W gW 64 (ss.map wv)
  far : gM < gW ∧ gW < W.heap.size
theorem RefS.sched {w W : World} {gT gM : Nat} {m : List UInt8} {hs : List Nat} (h : RefS w W gT gM m hs) (b : List UInt8) (c : Array Value) (hc : c.size = 64) (t : TypeId) :
    RefQ w ((W.alloc (.cells c t)).setCells W.heap.size 0 ((ws b).map wv)) gT gM W.heap.size m hs (ws b) := by
  have hba : Below W.heap.size W (W.alloc (.cells c t)) := (Below.refl _ _).alloc (Nat.le_refl _) _
  have hbb : Below W.heap.size W ((W.alloc (.cells c t)).setCells W.heap.size 0 ((ws b).map wv)) := hba.trans (below_cells (Nat.le_refl _) _ _ _)
  have hn := arr_new W c t
  rw [hc] at hn
  have ho := hn.over (ys := (ws b).map wv) (by rw [List.length_map, ws_length])
  exact ⟨h.on hbb, ho, h.far.2, ho.size (by omega)⟩
/-- .. and the words under way. -/
structure RefR (w W : World) (gT gM gW gV : Nat) (m : List UInt8) (hs ss vs : List Nat) : Prop where
  base : RefS w W gT gM m hs
  sch : Arr W gW 64 (ss.map wv)
  vv : Arr W gV 8 (vs.map wv)
  far : gM < gW ∧ gW < gV ∧ gV < W.heap.size
theorem RefQ.words {w W : World} {gT gM gW : Nat} {m : List UInt8} {hs ss vs : List Nat} (h : RefQ w W gT gM gW m hs ss) (hv : vs.length = 8) (c : Array Value) (hc : c.size = 8) (t : TypeId) :
    RefR w ((W.alloc (.cells c t)).setCells W.heap.size 0 (vs.map wv)) gT gM gW W.heap.size m hs ss vs := by
  have hba : Below W.heap.size W (W.alloc (.cells c t)) := (Below.refl _ _).alloc (Nat.le_refl _) _
  have hbb : Below W.heap.size W ((W.alloc (.cells c t)).setCells W.heap.size 0 (vs.map wv)) := hba.trans (below_cells (Nat.le_refl _) _ _ _)
  have hn := arr_new W c t
  rw [hc] at hn
  have ho := hn.over (ys := vs.map wv) (by rw [List.length_map, hv])
  exact ⟨h.base.on hbb, h.sch.below hbb h.far.2, ho, h.far.1, h.far.2, ho.size (by omega)⟩
theorem fresh8 (W : World) (c : Array Value) (t : TypeId) (vs : List Nat) (hc : c.size = 8) (hv : vs.length = 8) : (W.alloc (.cells c t)).there W.heap.size 0 (vs.map wv).toArray.size := by
  have h := (arr_new W c t).there
  rw [hc] at h
  rw [show (vs.map wv).toArray.size = 8 by simp [hv]]
  exact h
theorem i8w {vs : List Nat} (hv : vs.length = 8) : (Tryd.prog.info? 96).map (·.size) = some (vs.map wv).toArray.size := by rw [show (vs.map wv).toArray.size = 8 by simp [hv]]; exact info8w
theorem i8l {vs : List Nat} (hv : vs.length = 8) : (Tryd.prog.info? 96).map (·.size) = some (vs.map wv).length := by rw [List.length_map, hv]; exact info8w
theorem RefS.onB {w wr w2 : World} {gT gM B : Nat} {m : List UInt8} {hs : List Nat} (h : RefS w wr gT gM m hs) (hB : gM < B) (hb : Below B wr w2) : RefS w w2 gT gM m hs :=
  ⟨h.res.below hb (by have := h.far.1; omega), h.wds.below hb (by have := h.far.1; omega), fun i x hx => (hb.cell (p := ⟨gM, i, none⟩) hB).trans (h.msg i x hx), ⟨h.far.1, Nat.lt_of_lt_of_le h.far.2 hb.size⟩, h.tab.below hb (by have := h.far.1; have := h.low; omega), h.below.trans (hb.mono (by have := h.far.1; omega)), h.low⟩
theorem RefR.drewN {w W : World} {gT gM gW gV : Nat} {m : List UInt8} {hs ss vs : List Nat} (h : RefR w W gT gM gW gV m hs ss vs) (k : Nat) : RefR w (W.drewN k) gT gM gW gV m hs ss vs :=
  ⟨⟨h.base.res.drew k, h.base.wds.drew k, h.base.msg, h.base.far, h.base.tab, ⟨h.base.below.os, h.base.below.tape, h.base.below.output, h.base.below.size, h.base.below.block⟩, h.base.low⟩, h.sch.drew k, h.vv.drew k, h.far⟩
theorem RefR.putV {w W : World} {gT gM gW gV : Nat} {m : List UInt8} {hs ss vs : List Nat} (h : RefR w W gT gM gW gV m hs ss vs) (us : List Nat) (hu : us.length = 8) : RefR w (W.setCells gV 0 (us.map wv)) gT gM gW gV m hs ss us := by
  have hb : Below gV W (W.setCells gV 0 (us.map wv)) := below_cells (Nat.le_refl _) _ _ _
  have ho := h.vv.over (ys := us.map wv) (by rw [List.length_map, hu])
  exact ⟨h.base.onB (by have := h.far; omega) hb, h.sch.below hb h.far.2.1, ho, h.far.1, h.far.2.1, ho.size (by omega)⟩
theorem RefR.putS {w W : World} {gT gM gW gV : Nat} {m : List UInt8} {hs ss vs : List Nat} (h : RefR w W gT gM gW gV m hs ss vs) {i : Nat} (hi : i < 8) (y : Nat) : RefR w (W.setCell ⟨w.heap.size + 1, i, none⟩ (wv y)) gT gM gW gV m (hs.set i y) ss vs := by
  have hf := h.far
  have hm := h.base.far
  have hw := h.base.wds.set (i := i) hi (wv y)
  rw [← List.map_set] at hw
  have hb2 : Below w.heap.size w (W.setCell ⟨w.heap.size + 1, i, none⟩ (wv y)) := h.base.below.setCell (by simp) _
  have hsz : (W.setCell ⟨w.heap.size + 1, i, none⟩ (wv y)).heap.size = W.heap.size := World.size_setCell _ _ _
  exact ⟨⟨h.base.res.other (by omega) _, hw, fun j x hx => (World.cell?_setCell_other _ _ _ _ (by intro e; cases e; omega)).trans (h.base.msg j x hx), ⟨hm.1, by omega⟩,
    fun j hj => (World.cell?_setCell_other _ _ _ _ (by intro e; cases e; have := h.base.low; omega)).trans (h.base.tab j hj), hb2, h.base.low⟩, h.sch.other (by omega) _, h.vv.other (by omega) _, hf.1, hf.2.1, by omega⟩
theorem after_zero {hs : List Nat} (b : List UInt8) (hl : hs.length = 8) : (after hs b 0).list = hs := by
  obtain ⟨a, b1, c, d, e, f, g, h, rfl⟩ := eight hl
  rfl
theorem rotrR_call (x n : Nat) (hx : x < 4294967296) (h1 : 1 ≤ n) (h2 : n ≤ 31) (W : World) :
    Calls Tryd.prog 80 #[.int .u32 (x : Int), .int .i64 (n : Int)] W fun e w' => e = .returned (.int .u32 (rotr x n : Int)) ∧ ∃ k, w' = W.drewN k := refRotr_any x n W hx h1 h2
theorem rndR_steps {s : St} (hs : Fits s) (k w : Nat) :
    ∃ p6 p11 p25 p2 p13 p22 s1 s2 q1 n1 m1 n2 s3 q2 q3 x s4 s5 o1 o2 o3 s6 s7 y e' a' : Nat,
      (∀ W, Calls Tryd.prog 80 #[.int .u32 (s.e : Int), .int .i64 6] W fun e w' => e = .returned (.int .u32 (p6 : Int)) ∧ ∃ k, w' = W.drewN k) ∧
      (∀ W, Calls Tryd.prog 80 #[.int .u32 (s.e : Int), .int .i64 11] W fun e w' => e = .returned (.int .u32 (p11 : Int)) ∧ ∃ k, w' = W.drewN k) ∧
      (∀ W, Calls Tryd.prog 80 #[.int .u32 (s.e : Int), .int .i64 25] W fun e w' => e = .returned (.int .u32 (p25 : Int)) ∧ ∃ k, w' = W.drewN k) ∧
      (∀ W, Calls Tryd.prog 80 #[.int .u32 (s.a : Int), .int .i64 2] W fun e w' => e = .returned (.int .u32 (p2 : Int)) ∧ ∃ k, w' = W.drewN k) ∧
      (∀ W, Calls Tryd.prog 80 #[.int .u32 (s.a : Int), .int .i64 13] W fun e w' => e = .returned (.int .u32 (p13 : Int)) ∧ ∃ k, w' = W.drewN k) ∧
      (∀ W, Calls Tryd.prog 80 #[.int .u32 (s.a : Int), .int .i64 22] W fun e w' => e = .returned (.int .u32 (p22 : Int)) ∧ ∃ k, w' = W.drewN k) ∧
      bits .xor .u32 (p6 : Int) (p11 : Int) = (s1 : Int) ∧ bits .xor .u32 (s1 : Int) (p25 : Int) = (s2 : Int) ∧ IntKind.u32.wrap ((s.h : Int) + (s2 : Int)) = (q1 : Int) ∧
      bits .and .u32 (s.e : Int) (s.f : Int) = (n1 : Int) ∧ bits .xor .u32 (s.e : Int) 4294967295 = (m1 : Int) ∧ bits .and .u32 (m1 : Int) (s.g : Int) = (n2 : Int) ∧ bits .xor .u32 (n1 : Int) (n2 : Int) = (s3 : Int) ∧
      IntKind.u32.wrap ((q1 : Int) + (s3 : Int)) = (q2 : Int) ∧ IntKind.u32.wrap ((q2 : Int) + (k : Int)) = (q3 : Int) ∧ IntKind.u32.wrap ((q3 : Int) + (w : Int)) = (x : Int) ∧
      bits .xor .u32 (p2 : Int) (p13 : Int) = (s4 : Int) ∧ bits .xor .u32 (s4 : Int) (p22 : Int) = (s5 : Int) ∧ bits .and .u32 (s.a : Int) (s.b : Int) = (o1 : Int) ∧ bits .and .u32 (s.a : Int) (s.c : Int) = (o2 : Int) ∧
      bits .xor .u32 (o1 : Int) (o2 : Int) = (s6 : Int) ∧ bits .and .u32 (s.b : Int) (s.c : Int) = (o3 : Int) ∧ bits .xor .u32 (s6 : Int) (o3 : Int) = (s7 : Int) ∧
      IntKind.u32.wrap ((s5 : Int) + (s7 : Int)) = (y : Int) ∧ ((s.d : Int) + (x : Int)) % 4294967296 = (e' : Int) ∧ ((x : Int) + (y : Int)) % 4294967296 = (a' : Int) ∧
      rnd s (k, w) = ⟨a', s.a, s.b, s.c, e', s.e, s.f, s.g⟩ :=
  ⟨rotr s.e 6, rotr s.e 11, rotr s.e 25, rotr s.a 2, rotr s.a 13, rotr s.a 22, _, _, _, _, s.e ^^^ 4294967295, _, _, _, _, _, _, _, _, _, _, _, _, _, _, _,
    rotrR_call s.e 6 hs.e (by omega) (by omega), rotrR_call s.e 11 hs.e (by omega) (by omega), rotrR_call s.e 25 hs.e (by omega) (by omega), rotrR_call s.a 2 hs.a (by omega) (by omega), rotrR_call s.a 13 hs.a (by omega) (by omega), rotrR_call s.a 22 hs.a (by omega) (by omega),
    xor32 (rotr_lt 6 hs.e) (rotr_lt 11 hs.e), xor32 (xor_lt (rotr_lt 6 hs.e) (rotr_lt 11 hs.e)) (rotr_lt 25 hs.e), add32 _ _,
    and32 hs.e hs.f, xor32 (b := 4294967295) hs.e (by omega), and32 (xor_lt hs.e (by omega)) hs.g, xor32 (and_lt hs.f) (and_lt hs.g), add32 _ _, add32 _ _, add32 _ _,
    xor32 (rotr_lt 2 hs.a) (rotr_lt 13 hs.a), xor32 (xor_lt (rotr_lt 2 hs.a) (rotr_lt 13 hs.a)) (rotr_lt 22 hs.a), and32 hs.a hs.b, and32 hs.a hs.c, xor32 (and_lt hs.b) (and_lt hs.c), and32 hs.b hs.c, xor32 (xor_lt (and_lt hs.b) (and_lt hs.c)) (and_lt hs.c),
    add32 _ _, add_mod _ _, add_mod _ _, rfl⟩

/-- While the result is written. -/
structure RefO (w w1 wq : World) (hs : List Nat) (i : Nat) : Prop where
  res : Arr wq w.heap.size 32 z32.toList
  wds : Arr wq (w.heap.size + 1) 8 (hs.map wv)
  out : Arr wq w1.heap.size 32 (((hs.flatMap wordBytes).take i ++ zeros (32 - i)).map Wire.bv)
  far : w.heap.size + 2 ≤ w1.heap.size
  below : Below w.heap.size w wq
theorem refO_start {w w1 : World} {gT gM : Nat} {m : List UInt8} {hs : List Nat} (h : RefS w w1 gT gM m hs) (t : TypeId) : RefO w w1 (w1.alloc (.cells z32 t)) hs 0 := by
  have hb : Below w1.heap.size w1 (w1.alloc (.cells z32 t)) := (Below.refl _ _).alloc (Nat.le_refl _) _
  have hf := h.far
  refine ⟨h.res.below hb (by omega), h.wds.below hb (by omega), ?_, by omega, bcj h.below hb⟩
  have hn := arr_new w1 z32 t
  rw [z32_size] at hn
  exact hn
theorem fm_at : ∀ (hs : List Nat) (q r : Nat), r < 4 → q < hs.length → (hs.flatMap wordBytes)[4 * q + r]? = (wordBytes (hs.getD q 0))[r]?
  | [], q, _, _, hq => by simp at hq
  | a :: l, 0, r, hr, _ => by
    rw [List.flatMap_cons, List.getElem?_append_left (by show _ < 4; omega)]
    simp
  | a :: l, q + 1, r, hr, hq => by
    rw [List.flatMap_cons, List.getElem?_append_right (by show 4 ≤ _; omega), show 4 * (q + 1) + r - (wordBytes a).length = 4 * q + r by show 4 * (q + 1) + r - 4 = _; omega, fm_at l q r hr (by simpa using hq)]
    simp
theorem out_byte {hs : List Nat} {i q r : Nat} (hl : hs.length = 8) (hi : i < 32) (hq : q = i / 4) (hr : r = i % 4) : ∃ b, (hs.flatMap wordBytes)[i]? = some b ∧ ((hs.getD q 0 : Nat) : Int) / 2 ^ (24 - 8 * r) % 256 = (b.toNat : Int) := by
  have h := fm_at hs q r (by omega) (by omega)
  rw [show 4 * q + r = i by omega] at h
  rw [h]
  generalize hs.getD q 0 = u
  have hu : ∀ v : Nat, (v : Int) % 256 = ((u8 v).toNat : Int) := by
    intro v
    have : (u8 v).toNat = v % 256 := by simp [u8]
    omega
  have hc : r = 0 ∨ r = 1 ∨ r = 2 ∨ r = 3 := by omega
  rcases hc with rfl | rfl | rfl | rfl
  · exact ⟨_, rfl, by rw [← hu]; omega⟩
  · exact ⟨_, rfl, by rw [← hu]; omega⟩
  · exact ⟨_, rfl, by rw [← hu]; omega⟩
  · exact ⟨_, rfl, by rw [← hu]; omega⟩
theorem fm_length (hs : List Nat) (hl : hs.length = 8) : (hs.flatMap wordBytes).length = 32 := by
  obtain ⟨a, b, c, d, e, f, g, h, rfl⟩ := eight hl
  rfl
theorem RefO.drewN {w w1 wq : World} {hs : List Nat} {i : Nat} (h : RefO w w1 wq hs i) (k : Nat) : RefO w w1 (wq.drewN k) hs i :=
  ⟨h.res.drew k, h.wds.drew k, h.out.drew k, h.far, ⟨h.below.os, h.below.tape, h.below.output, h.below.size, h.below.block⟩⟩
theorem RefO.put {w w1 wq : World} {hs : List Nat} {i : Nat} (h : RefO w w1 wq hs i) (hl : hs.length = 8) (hi : i < 32) {b : UInt8} (hb : (hs.flatMap wordBytes)[i]? = some b) : RefO w w1 (wq.setCell ⟨w1.heap.size, i, none⟩ (Wire.bv b)) hs (i + 1) := by
  have hf := h.far
  have hw := h.out.set (i := i) hi (Wire.bv b)
  have e : (((hs.flatMap wordBytes).take i ++ zeros (32 - i)).map Wire.bv).set i (Wire.bv b) = ((hs.flatMap wordBytes).take (i + 1) ++ zeros (32 - (i + 1))).map Wire.bv := by
    have h32 := fm_length hs hl
    obtain ⟨d, hd⟩ : ∃ d, 32 - i = d + 1 := ⟨31 - i, by omega⟩
    have hd2 : 32 - (i + 1) = d := by omega
    rw [← List.map_set, List.set_append_right _ _ (by simp; omega), List.take_add_one, hb, hd, hd2]
    have hm : min i (hs.flatMap wordBytes).length = i := by omega
    rw [List.length_take, hm, Nat.sub_self]
    simp [zeros, List.replicate_succ]
  rw [e] at hw
  exact ⟨h.res.other (by omega) _, h.wds.other (by omega) _, hw, hf, h.below.setCell (by simp; omega) _⟩
theorem pad_len (x : List UInt8) : ∃ K, (pad x).length = 64 * K := by
  refine ⟨(pad x).length / 64, ?_⟩
  have : (pad x).length % 64 = 0 := by
    simp only [pad, List.length_append, List.length_cons, zeros_length, lenBytes_length]
    unfold gap
    omega
  omega

theorem blk_at {m : List UInt8} {p i : Nat} {x : UInt8} (h : ((m.drop p).take 64)[i]? = some x) : m[p + i]? = some x := by
  rw [List.getElem?_take] at h
  split at h
  · rwa [List.getElem?_drop] at h
  · cases h

set_option maxRecDepth 100000 in
set_option maxHeartbeats 1000000 in
theorem refSum_any (x : List UInt8) (n c : Nat) (A : Option Addr) (w : World) (hl : Wire.Lies w w.heap.size 1 A n c (x.map Wire.bv)) (hx : x.length ≤ 1000000) (ht : Table 0 w) :
    Calls Tryd.prog 64 #[.slice A n c] w (GivesA ((sha x).map Wire.bv) w) := by
  have hz2 := zero32
  have HL := Lib.hid hl
  have HT := Lib.hid ht
  have HX := Lib.hid hx
  clear hl ht hx
  go_enter Tryd.func64, Tryd.ntmps64
  go_wp2_with (go_at_call 78; refine gen_world (G := fun W => Calls _ _ _ W _) (Pq := fun W => RefA w W 0 A n c x) (refA_start HL.out HT.out _ rfl _ _) ?_; intro w0 S0; refine (padded_any x n c A w0 S0.arg HX.out).mono ?_; rintro e w1 ⟨gM, cap, rfl, hown, hb⟩)
  have S1 := refS_start S0 rfl hown hb
  have hm : ∃ m, m = pad x := ⟨_, rfl⟩
  obtain ⟨m, hm⟩ := hm
  obtain ⟨K, hK⟩ := pad_len x
  have hsha : sha x = (blocks m K).flatMap wordBytes := by rw [hm, sha, hK, Nat.mul_div_cancel_left _ (by omega)]
  have hLx : (pad x).length ≤ 1000200 := by
    have := HX.out
    simp only [pad, List.length_append, List.length_cons, zeros_length, lenBytes_length]
    have : gap x.length < 64 := by unfold gap; omega
    omega
  have hcap : (pad x).length ≤ cap := by
    rcases hown.2 with ⟨h1, _⟩ | ⟨g1, cap1, cur, h1, _, _, h2, _⟩
    · cases h1
    · cases h1; exact h2
  have hcap2 : cap ≤ maxLen := by
    rcases hown.2 with ⟨h1, _⟩ | ⟨g1, cap1, cur, h1, _, _, _, h2, _⟩
    · cases h1
    · cases h1; exact h2
  rw [← hm] at S1 hK hLx hcap hown ⊢
  have hML : m.length = 64 * K := hK
  obtain ⟨L, hL⟩ : ∃ L, L = m.length := ⟨_, rfl⟩
  rw [← hL] at hML hK hLx hcap hown ⊢
  have HS := Lib.hid hsha
  have HL2 := Lib.hid hL
  have HK := Lib.hid hK
  clear hsha hL hK hown hb hm S0 hz2 hML
  go_loopw [5] (fun iv wr => ∃ (k p : Nat), k ≤ K ∧ p = 64 * k ∧ iv = .int .i64 (p : Int) ∧ RefS w wr 0 gM m (blocks m k)) (fun iv _ => (L - intOf iv).toNat)
  case atStart => exact ⟨0, 0, by omega, rfl, rfl, S1⟩
  case round =>
    clear S1
    obtain ⟨k, p, hk, hp, rfl, hr⟩ := hrel
    rcases Nat.lt_or_ge k K with hlt | hge
    · have z0 : (0 : Int) ≤ (p : Int) := by omega
      have z1 : (p : Int) < (L : Int) := by have := HK.out; omega
      have z2 : (p : Int) + 64 ≤ (L : Int) := by have := HK.out; omega
      have z3 : p + 64 ≤ L := by omega
      have hbl : ((m.drop p).take 64).length = 64 := by have := HL2.out; simp; omega
      have hsucc : blocks m (k + 1) = comp (blocks m k) ((m.drop p).take 64) := by rw [hp]; rfl
      obtain ⟨blk, hblk⟩ : ∃ blk, blk = (m.drop p).take 64 := ⟨_, rfl⟩
      have hbc : ∀ (i : Nat) (y : UInt8), blk[i]? = some y → m[p + i]? = some y := fun i y hy => blk_at (by rw [← hblk]; exact hy)
      rw [← hblk] at hbl hsucc
      have hwords := fun (W : World) (hW : RefS w W 0 gM m (blocks m k)) (cc : Nat) => words_any blk gM p cc W hbl hW.far.2 (fun i y hy => hW.msg _ _ (hbc i y hy))
      have HW := Lib.hid hwords
      have HSU := Lib.hid hsucc
      have HP := Lib.hid hp
      have HK1 := Lib.hid hlt
      have HBL := Lib.hid hbl
      have HBK : Hid ((blocks m k).length = 8) := Lib.hid (blocks_length m k)
      clear hwords hsucc hblk hbc hbl hk hp
      go_wp2_with (first
        | (go_at_call 79; refine (HW.out _ hr _).mono ?_; rintro e w2 ⟨rfl, hb2⟩; replace hr := hr.on hb2; clear hb2)
        | ((with_reducible refine at_store 113 (.tmp 6) (.tmp 28) rfl ?_); refine wpList_store_mid rfl 113 (.tmp 6) (.tmp 28) rfl w2.heap.size 0 ((ws blk).map wv).toArray rfl rfl (fresh64 _ _ _ _ rfl) (iw blk) (words_one _) ?_; refine gen_world (Pq := fun W => RefQ w W 0 gM w2.heap.size m (blocks m k) (ws blk)) (G := fun W => wpList _ _ _ _ _ W) (hr.sched blk _ rfl _) ?_; intro w3 S3; clear hr)
        | ((with_reducible refine at_slot 29 rfl ?_); refine wpList_load_mid rfl 96 (.tmp 3) rfl (w.heap.size + 1) 0 rfl ((blocks m k).map wv) _ S3.base.wds.range und8w rfl (i8l HBK.out) ?_)
        | ((with_reducible refine at_store 96 (.tmp 7) (.tmp 29) rfl ?_); refine wpList_store_mid rfl 96 (.tmp 7) (.tmp 29) rfl w3.heap.size 0 ((blocks m k).map wv).toArray rfl rfl (fresh8 _ _ _ _ rfl HBK.out) (i8w HBK.out) (words_one _) ?_; refine gen_world (Pq := fun W => RefR w W 0 gM w2.heap.size w3.heap.size m (blocks m k) (ws blk) (blocks m k)) (G := fun W => wpList _ _ _ _ _ W) (S3.words HBK.out _ rfl _) ?_; intro w4 S4; clear S3))
      obtain ⟨gW, hgW⟩ : ∃ g, g = w2.heap.size := ⟨_, rfl⟩
      obtain ⟨gV, hgV⟩ : ∃ g, g = w3.heap.size := ⟨_, rfl⟩
      rw [← hgW, ← hgV] at S4 ⊢
      clear hgW hgV
      have hss := HSU.out
      have hh := blocks_lt m k
      have hbk := HBK.out
      obtain ⟨hs, hhs⟩ : ∃ hs, hs = blocks m k := ⟨_, rfl⟩
      rw [← hhs] at S4 hss hh hbk
      have HH := Lib.hid hhs
      have HSS := Lib.hid hss
      have HFT := Lib.hid (after_fits blk hh)
      have HBL8 := Lib.hid hbk
      rw [← hhs]
      clear hhs hss hh hbk HBK HSU
      have S5 : RefR w w4 0 gM gW gV m hs (ws blk) (after hs blk 0).list := by rw [after_zero blk HBL8.out]; exact S4
      clear S4
      go_loopw [8] (fun iv wr => ∃ (t : Nat), t ≤ 64 ∧ iv = .int .i64 (t : Int) ∧ RefR w wr 0 gM gW gV m hs (ws blk) (after hs blk t).list) (fun iv _ => (64 - intOf iv).toNat)
      case atStart => exact ⟨0, by omega, rfl, S5⟩
      case round =>
        clear S5
        obtain ⟨t, ht, rfl, hr⟩ := hrel
        by_cases hlt : t < 64
        · have hfs := HFT.out t
          have hsucc := after_succ hs blk hlt
          have ck : wr.cell? ⟨0, t, none⟩ = some (wv (ks.getD t 0)) := hr.base.tab t hlt
          have cw : wr.cell? ⟨gW, t, none⟩ = some (wv ((ws blk).getD t 0)) := (hr.sch.at_ (i := t) (by rw [List.getElem?_map, List.getD_eq_getElem?_getD, List.getElem?_eq_getElem (by rw [ws_length]; exact hlt)]; rfl)).1
          generalize ks.getD t 0 = kt at hsucc ck
          generalize (ws blk).getD t 0 = x0 at hsucc cw
          generalize after hs blk t = s at hfs hsucc hr
          obtain ⟨p6, p11, p25, p2, p13, p22, s1, s2, q1, n1, m1, n2, s3, q2, q3, x', s4, s5, o1, o2, o3, s6, s7, y, e', a', c6, c11, c25, c2, c13, c22, e1, e2, e3, e4, e5, e6, e7, e8, e9, e10, e11, e12, e13, e14, e15, e16, e17, e18, e19, e20, hrnd⟩ := rndR_steps hfs kt x0
          have hnext := hsucc.trans hrnd
          have HN := Lib.hid hnext; clear hnext hsucc hrnd hfs
          obtain ⟨a, b1, c', d, e, f, g, h⟩ := s
          have v0 : wr.cell? ⟨gV, 0, none⟩ = some (.int .u32 (a : Int)) := (hr.vv.at_ (i := 0) rfl).1
          have v1 : wr.cell? ⟨gV, 1, none⟩ = some (.int .u32 (b1 : Int)) := (hr.vv.at_ (i := 1) rfl).1
          have v2 : wr.cell? ⟨gV, 2, none⟩ = some (.int .u32 (c' : Int)) := (hr.vv.at_ (i := 2) rfl).1
          have v3 : wr.cell? ⟨gV, 3, none⟩ = some (.int .u32 (d : Int)) := (hr.vv.at_ (i := 3) rfl).1
          have v4 : wr.cell? ⟨gV, 4, none⟩ = some (.int .u32 (e : Int)) := (hr.vv.at_ (i := 4) rfl).1
          have v5 : wr.cell? ⟨gV, 5, none⟩ = some (.int .u32 (f : Int)) := (hr.vv.at_ (i := 5) rfl).1
          have v6 : wr.cell? ⟨gV, 6, none⟩ = some (.int .u32 (g : Int)) := (hr.vv.at_ (i := 6) rfl).1
          have v7 : wr.cell? ⟨gV, 7, none⟩ = some (.int .u32 (h : Int)) := (hr.vv.at_ (i := 7) rfl).1
          have z0 : (0 : Int) ≤ (t : Int) := by omega
          have z1 : (t : Int) < 64 := by omega
          simp only at c6 c11 c25 c2 c13 c22 e3 e4 e5 e6 e13 e14 e16 e19
          unfold wv at ck cw
          go_wp2
          go_quiet ((first
            | (with_reducible exact Calls.quiet_of (c6 _))
            | (with_reducible exact Calls.quiet_of (c11 _))
            | (with_reducible exact Calls.quiet_of (c25 _))))
          go_wp2
          have V : ∀ i u, wr.cell? ⟨gV, i, none⟩ = some u → (wr.drewN nq).cell? ⟨gV, i, none⟩ = some u := fun _ _ hx => hx
          have hr5 := hr.drewN nq
          replace v0 := V _ _ v0
          replace v1 := V _ _ v1
          replace v2 := V _ _ v2
          replace v3 := V _ _ v3
          replace v4 := V _ _ v4
          replace v5 := V _ _ v5
          replace v6 := V _ _ v6
          clear V v7 ck cw hr
          revert hr5 v0 v1 v2 v3 v4 v5 v6
          generalize wr.drewN nq = w5
          intro hr5 v0 v1 v2 v3 v4 v5 v6
          clear nq
          go_quiet ((first
            | (with_reducible exact Calls.quiet_of (c2 _))
            | (with_reducible exact Calls.quiet_of (c13 _))
            | (with_reducible exact Calls.quiet_of (c22 _))))
          rename_i hKx
          refine hKx _ _ ?_
          have V : ∀ i u, w5.cell? ⟨gV, i, none⟩ = some u → (w5.drewN nq).cell? ⟨gV, i, none⟩ = some u := fun _ _ hx => hx
          have hr6 := hr5.drewN nq
          replace v0 := V _ _ v0
          replace v1 := V _ _ v1
          replace v2 := V _ _ v2
          replace v3 := V _ _ v3
          replace v4 := V _ _ v4
          replace v5 := V _ _ v5
          replace v6 := V _ _ v6
          clear V hr5
          revert hr6 v0 v1 v2 v3 v4 v5 v6
          generalize w5.drewN nq = w6
          intro hr6 v0 v1 v2 v3 v4 v5 v6
          clear nq
          go_wp2_with ((with_reducible refine at_store 96 (.tmp 7) (.tmp 117) rfl ?_); clear v0 v1 v2 v3 v4 v5 v6; refine wpList_store_mid rfl 96 (.tmp 7) (.tmp 117) rfl gV 0 ([a', a, b1, c', e', e, f, g].map wv).toArray rfl rfl hr6.vv.there (i8w rfl) (words_one _) ?_; refine gen_world (Pq := fun W => RefR w W 0 gM gW gV m hs (ws blk) (after hs blk (t + 1)).list) (G := fun W => wpList _ _ _ _ _ W) (by rw [HN.out]; exact hr6.putV [a', a, b1, c', e', e, f, g] rfl) ?_; intro w8 S8; clear hr6)
          go_roundw
          case rel => exact ⟨t + 1, by omega, by go_num, S8⟩
          case measure => simp [intOf]; omega
        · have ht64 : t = 64 := by omega
          have hall : comp hs blk = List.zipWith add hs (after hs blk t).list := by rw [ht64]; exact after_all hs blk
          have z64 : ¬ (t : Int) < 64 := by omega
          generalize after hs blk t = s2 at hall hr
          have HA := Lib.hid hall
          clear hall ht64 hlt ht
          go_wp2
          go_loopw [11] (fun iv wq => ∃ (i : Nat), i ≤ 8 ∧ iv = .int .i64 (i : Int) ∧ RefR w wq 0 gM gW gV m (sums hs s2 i) (ws blk) s2.list) (fun iv _ => (8 - intOf iv).toNat)
          case atStart => exact ⟨0, by omega, rfl, by rw [sums_zero]; exact hr⟩
          case round =>
            clear hr
            obtain ⟨i, hi, rfl, hq⟩ := hrel
            by_cases hi8 : i < 8
            · have y0 : (0 : Int) ≤ (i : Int) := by omega
              have y1 : (i : Int) < 8 := by omega
              have hsl : s2.list.length = 8 := rfl
              have d1 : wr.cell? ⟨w.heap.size + 1, i, none⟩ = some (wv (hs.getD i 0)) := (hq.base.wds.at_ (i := i) (by rw [List.getElem?_map, sums_at HBL8.out hi8]; rfl)).1
              have d2 : wr.cell? ⟨gV, i, none⟩ = some (wv (s2.list.getD i 0)) := (hq.vv.at_ (i := i) (by rw [List.getElem?_map, List.getD_eq_getElem?_getD, List.getElem?_eq_getElem (by omega)]; rfl)).1
              have hq2 := hq.drewN 1
              obtain ⟨q1, q2⟩ := hq2.base.wds.at_ (i := i) (u := wv (hs.getD i 0)) (by rw [List.getElem?_map, sums_at HBL8.out hi8]; rfl)
              have hput := hq2.putS hi8 (add (hs.getD i 0) (s2.list.getD i 0))
              rw [sums_put HBL8.out hi8] at hput
              have hadd := add32 (hs.getD i 0) (s2.list.getD i 0)
              generalize add (hs.getD i 0) (s2.list.getD i 0) = y at hput hadd
              generalize hs.getD i 0 = u at d1 q1 hadd
              generalize s2.list.getD i 0 = v at d2 hadd
              unfold wv at d1 d2 q1 hput
              clear hsl hq hq2 hi
              go_wp2
              go_still_tail 8, (by kernel_rfl)
              change wpList _ _ _ _ _ (wr.drewN 1)
              clear d1 d2
              revert hput
              revert q2
              revert q1
              generalize wr.drewN 1 = w7
              intro q1 q2 hput
              have HPUT := Lib.hid hput
              clear hput
              go_wp2
              go_roundw
              case rel => exact ⟨i + 1, by omega, by go_num, HPUT.out⟩
              case measure => simp [intOf]; omega
            · have hi8' : i = 8 := by omega
              have z8 : ¬ (i : Int) < 8 := by omega
              have hq8 : RefS w wr 0 gM m (blocks m (k + 1)) := by
                have := hq.base
                rw [hi8', sums_all HBL8.out, ← HA.out, ← HSS.out] at this
                exact this
              have HQ := Lib.hid hq8
              clear hq hq8 hi8 hi hi8'
              go_wp2
              go_roundw
              case rel => exact ⟨k + 1, p + 64, by have := HK1.out; omega, by have := HP.out; omega, congrArg (Value.int .i64) (by omega), HQ.out⟩
              case measure => simp [intOf]; omega
    · have hkK : k = K := by omega
      have zL : ¬ (p : Int) < (L : Int) := by have := HK.out; omega
      obtain ⟨hs, hhs⟩ : ∃ hs, hs = blocks m k := ⟨_, rfl⟩
      rw [← hhs] at hr
      have hsh : sha x = hs.flatMap wordBytes := by rw [HS.out, hhs, hkK]
      have hl8 : hs.length = 8 := by rw [hhs]; exact blocks_length m k
      have hlt : ∀ y ∈ hs, y < 4294967296 := by rw [hhs]; exact blocks_lt m k
      have hz2 := zero32
      have HSH := Lib.hid hsh
      have HL8 := Lib.hid hl8
      have HLT := Lib.hid hlt
      have HR := Lib.hid hr
      clear hhs hkK hge hk hp hsh hl8 hlt hr
      obtain ⟨wA, hwA⟩ : ∃ wA, wA = wr := ⟨_, rfl⟩
      rw [← hwA] at HR ⊢
      clear hwA
      go_wp2
      clear hz2
      go_loopw [13] (fun iv wq => ∃ (i : Nat), i ≤ 32 ∧ iv = .int .i64 (i : Int) ∧ RefO w wA wq hs i) (fun iv _ => (32 - intOf iv).toNat)
      case atStart => exact ⟨0, by omega, rfl, refO_start HR.out _⟩
      case round =>
        obtain ⟨i, hi, rfl, hq⟩ := hrel
        by_cases hi32 : i < 32
        · obtain ⟨q, hq4⟩ : ∃ q, q = i / 4 := ⟨_, rfl⟩
          obtain ⟨r, hr4⟩ : ∃ r, r = i % 4 := ⟨_, rfl⟩
          have e1 : (i : Int) / 4 = (q : Int) := by omega
          have e2 : (i : Int) % 4 = (r : Int) := by omega
          have y0 : (0 : Int) ≤ (q : Int) := by omega
          have y1 : (q : Int) < 8 := by omega
          have y2 : (0 : Int) ≤ (r : Int) := by omega
          have y3 : (r : Int) < 4 := by omega
          have y4 : (0 : Int) ≤ (i : Int) := by omega
          have y5 : (i : Int) < 32 := by omega
          have hl8 := HL8.out
          obtain ⟨bt, hbt, hbv⟩ := out_byte hl8 hi32 hq4 hr4
          have d1 : wr.cell? ⟨w.heap.size + 1, q, none⟩ = some (wv (hs.getD q 0)) := (hq.wds.at_ (i := q) (by rw [List.getElem?_map, List.getD_eq_getElem?_getD, List.getElem?_eq_getElem (by omega)]; rfl)).1
          have h32 := fm_length hs hl8
          obtain ⟨uu, huu⟩ : ∃ uu, (((hs.flatMap wordBytes).take i ++ zeros (32 - i)).map Wire.bv)[i]? = some uu := ⟨_, List.getElem?_eq_getElem (by rw [List.length_map, List.length_append, List.length_take, zeros_length]; omega)⟩
          obtain ⟨q1, q2⟩ := hq.out.at_ huu
          have hput := hq.put hl8 hi32 hbt
          unfold Wire.bv at hput
          rw [← hbv] at hput
          generalize hs.getD q 0 = u at d1 hput
          have HPUT := Lib.hid hput
          unfold wv at d1
          clear hq4 hr4 hbt hbv h32 huu hput hq hl8 hi
          go_wp2
          go_roundw
          case rel => exact ⟨i + 1, by omega, by go_num, HPUT.out⟩
          case measure => simp [intOf]; omega
        · have hi2 : i = 32 := by omega
          have z32' : ¬ (i : Int) < 32 := by omega
          obtain ⟨ys, hys⟩ : ∃ ys, ys = sha x := ⟨_, rfl⟩
          have hyl : ys.length = 32 := by rw [hys]; exact sha_length x
          have ho : Arr wr wA.heap.size 32 (ys.map Wire.bv) := by
            have := hq.out
            rw [hi2, List.take_of_length_le (by rw [fm_length hs HL8.out]; omega), ← HSH.out, ← hys] at this
            simpa [zeros] using this
          have hml : (ys.map Wire.bv).length = 32 := by rw [List.length_map]; exact hyl
          have hi1 : (Tryd.prog.info? 84).map (·.size) = some (ys.map Wire.bv).length := by rw [hml]; exact info32
          have hth : wr.there w.heap.size 0 (ys.map Wire.bv).length := by rw [hml]; exact hq.res.there
          have hth2 : wr.there w.heap.size 0 (ys.map Wire.bv).toArray.size := by rw [List.size_toArray]; exact hth
          have hend := arr_end (w := w) (wr := wr) (g := w.heap.size) (xs := ys.map Wire.bv) 84 hq.below (Nat.le_refl _) hth und32 rfl hi1
          have hrg := ho.range
          have HYS := Lib.hid hys
          have HE := Lib.hid hend
          have HG := Lib.hid hrg
          have HTH := Lib.hid hth2
          have HI := Lib.hid hi1
          have HYL := Lib.hid hyl
          clear hys hyl ho hml hi1 hth hth2 hend hrg hq hi hi32 hi2
          go_wp2_with (first
            | ((with_reducible refine at_slot 147 rfl ?_); refine wpList_load_mid rfl 84 (.tmp 12) rfl wA.heap.size 0 rfl (ys.map Wire.bv) _ HG.out und32 rfl HI.out ?_)
            | ((with_reducible refine at_store 84 (.tmp 2) (.tmp 147) rfl ?_); refine wpList_store_mid rfl 84 (.tmp 2) (.tmp 147) rfl w.heap.size 0 (ys.map Wire.bv).toArray rfl rfl HTH.out (i32A HYL.out) (bytes_all _) ?_))
          refine bodyPost_ret (v := .agg (ys.map Wire.bv).toArray) ?_ rfl ⟨by rw [HYS.out], HE.out.2⟩
          simp [results, Tryd.results64, asAddr]
          rw [HE.out.1]

end Hash
end Go.Proofs.YthpkeaafgabjiaaDoor

