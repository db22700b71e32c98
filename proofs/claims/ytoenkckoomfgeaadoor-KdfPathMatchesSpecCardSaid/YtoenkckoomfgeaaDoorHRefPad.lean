/- The reference's padded message. Condition: the message has at most a million bytes. -/
import Derived.Test.YtoenkckoomfgeaaDoorHMac
import Derived.Test.YtoenkckoomfgeaaDoorInt
namespace Go.Proofs.YtoenkckoomfgeaaDoor
open Go.RowKit
namespace Hash
open Wire (bv Made Lies)

theorem lies_news {w : World} {B n c : Nat} {a : Addr} {bs : List UInt8} (h : Lies w B 1 (some a) n c (bs.map bv)) (j : Nat) (u : Value) (hu : (bs.map bv)[j]? = some u) : w.cell? (a.add j) = some u := by
  have hl : j < (bs.map bv).length := (List.getElem?_eq_some_iff.1 hu).1
  have hn := h.len
  obtain ⟨b, o, e, _, hc⟩ := h.cells (by omega)
  simp only [Option.some.injEq] at e
  subst e
  rw [Addr.add_mid]
  exact hc j u hu
theorem run_append_none {P : Program} (w : World) (t ty e : TypeId) (i : TypeInfo) (ht : P.underlying t = some (.slice e)) (hi : P.info? e = some i) (b : Addr) (n k : Nat) (hk : n ≤ k) (A : Option Addr) (c : Nat) :
    (Builtin.append_ #[t, t] ty #[.slice (some b) n k, .slice A 0 c]).run P w = .ok (.slice (some b) n k) w := by
  cases A with
  | none => simp [Builtin.append_, run_underlying ht, sizeOf, typeInfo, hi, Builtin.lenOf, Builtin.firstCells, storeCells, hk]
  | some a => simp [Builtin.append_, run_underlying ht, sizeOf, typeInfo, hi, Builtin.lenOf, Builtin.firstCells, loadCells, loadCellsFrom, storeCells, hk]

/-- A slice that came in, appended to one that is there. -/
theorem wpList_append_lies {w : World} {ops : Array Oper} {rest : List Oper} {o : Oper} {a : Act} {Q : Exit → Act → World → Prop} (hgd : o.guard = none) (s x : Operand)
    (ho : o.op = .call { callee := .builtin .append, args := #[s, x], argTypes := #[44, 44] })
    (base g k cap : Nat) (xs : List UInt8) (hs : a.eval s = .slice (some ⟨g, 0, none⟩) k cap) (hown : w.ownsRow base 5 1 (.slice (some ⟨g, 0, none⟩) k cap) k (xs.map bv))
    (A : Option Addr) (m c : Nat) (ys : List UInt8) (hx2 : a.eval x = .slice A m c)
    (hy : Lies w w.heap.size 1 A m c (ys.map bv)) (hbd : k + m ≤ 140737488355328) (hbase : base ≤ w.heap.size)
    (t : Nat) (ht : k + m = t) (zs : List UInt8) (hzs : xs ++ ys = zs)
    (h : ∀ g' cap' w', w'.ownsRow base 5 1 (.slice (some ⟨g', 0, none⟩) t cap') t (zs.map bv) → Below base w w' → wpList Tryd.prog ops Q rest (a.put o.dst (.slice (some ⟨g', 0, none⟩) t cap')) w') : wpList Tryd.prog ops Q (o :: rest) a w := by
  obtain ⟨i, hi, hz, hsz, hby⟩ := info_parts Wire.byte_info
  have hly := hy.len
  subst ht hzs
  refine wpList_plain hgd fun K hK => ?_
  have key : ∃ g' c' w', (Builtin.append_ #[44, 44] o.type #[.slice (some ⟨g, 0, none⟩) k cap, .slice A m c]).run Tryd.prog w = .ok (.slice (some ⟨g', 0, none⟩) (k + m) c') w' ∧ w'.ownsRow base 5 1 (.slice (some ⟨g', 0, none⟩) (k + m) c') (k + m) ((xs ++ ys).map bv) ∧ Below base w w' := by
    rcases Nat.eq_zero_or_pos m with h0 | h0
    · subst h0
      have hn : ys = [] := by simpa using hly
      subst hn
      have hkc : k ≤ cap := by
        rcases hown.2 with ⟨h1, _⟩ | ⟨g1, cap1, cur, h1, _, _, h2, _⟩
        · cases h1
        · cases h1; exact h2
      exact ⟨g, cap, w, run_append_none w _ _ _ i Tryd.underlying44 hi _ k cap hkc A c, by simpa using hown, Below.refl _ _⟩
    · obtain ⟨b2, o2, rfl, _, _⟩ := hy.cells h0
      obtain ⟨v', w', hr, ho', hg, _⟩ := run_append_own (P := Tryd.prog) (w := w) base 44 o.type 5 i (.int .u8 0) 1 1 Tryd.underlying44 hi hz hsz hby rfl (by decide) _ k (xs.map bv) hown ⟨b2, o2, none⟩ m c (ys.map bv) hly (lies_news hy) (Wire.bytes_one _) (by unfold maxLen; omega) (by omega) hbase
      obtain ⟨g', c', rfl, hl⟩ := Wire.own_form ho' (by omega)
      rw [← List.map_append] at ho'
      exact ⟨_, _, _, hr, ho', (Below.refl _ _).grown hg hbase (fun q hq => (hown.lt q hq).1)⟩
  obtain ⟨g', c', w', hr, hl, hb⟩ := key
  unfold Oper.wp execOp
  simp only [ho, resolve, invoke, builtin, Sem.run_bind, Sem.run_pure, Result.andThen_ok, List.map_toArray, List.map_cons, List.map_nil, hs, hx2, hr]
  exact hK _ _ (h g' c' w' hl hb)

def lenV : Value → Nat
  | .slice _ n _ => n
  | _ => 0

theorem own_lit0 (w : World) : (w.alloc (.cells #[] 5)).ownsRow w.heap.size 5 1 (.slice (some ⟨w.heap.size, 0, none⟩) 0 0) 0 (([] : List UInt8).map bv) :=
  ⟨rfl, .inr ⟨w.heap.size, 0, #[], rfl, Nat.le_refl _, heap_alloc_new w _, Nat.le_refl _, Nat.zero_le _, rfl, rfl⟩⟩
theorem len_byte (n i : Nat) (h : i < 8) : (8 * (n : Int) / 2 ^ (56 - 8 * i) % 256) = ((((lenBytes (8 * n)).getD i 0).toNat : Nat) : Int) := by
  have hu : ∀ m, ((u8 m).toNat : Int) = (m : Int) % 256 := by 
    intro m
    have : (u8 m).toNat = m % 256 := by simp [u8]
    omega
  have h0 : i = 0 ∨ i = 1 ∨ i = 2 ∨ i = 3 ∨ i = 4 ∨ i = 5 ∨ i = 6 ∨ i = 7 := by omega
  rcases h0 with rfl | rfl | rfl | rfl | rfl | rfl | rfl | rfl <;> simp [lenBytes, hu]
theorem len_more (n i : Nat) (h : i < 8) : (lenBytes (8 * n)).take i ++ [(lenBytes (8 * n)).getD i 0] = (lenBytes (8 * n)).take (i + 1) := by
  have hl : (lenBytes (8 * n)).length = 8 := rfl
  rw [List.take_add_one, List.getElem?_eq_getElem (by omega)]
  simp [List.getD, hl, h]
theorem pad_at0 (x : List UInt8) : x.map bv ++ [.int .u8 128] = (x ++ 128 :: zeros 0).map bv := by simp [zeros, bv]
theorem pad_more (x : List UInt8) (j : Nat) : (x ++ 128 :: zeros j).map bv ++ [.int .u8 0] = (x ++ 128 :: zeros (j + 1)).map bv := by
  have : zeros (j + 1) = zeros j ++ [0] := by simp [zeros, List.replicate_succ']
  rw [this]
  simp [bv]

set_option maxRecDepth 100000 in
set_option maxHeartbeats 1000000 in
theorem padded_any (x : List UInt8) (n c : Nat) (A : Option Addr) (w : World) (hl : Lies w w.heap.size 1 A n c (x.map bv)) (hx : x.length ≤ 1000000) :
    Calls Tryd.prog 37 #[.slice A n c] w (Made w (pad x).length (pad x)) := by
  obtain ⟨i0, hi, hz0, hz1, hz2⟩ := info_parts Wire.byte_info
  have hn : x.length = n := by have := hl.len; simpa using this
  rw [hn] at hx
  have hb0 : Below w.heap.size w (w.alloc (.cells #[] 5)) := (Below.refl _ _).alloc (Nat.le_refl _) _
  have hl0 := lies_on hl hb0
  have ho0 := own_lit0 w
  obtain ⟨G, hG⟩ : ∃ G, G = gap n := ⟨_, rfl⟩
  have hG1 : G < 64 := by rw [hG]; unfold gap; omega
  have hG2 : ∀ j, j < G → (n + 1 + j) % 64 ≠ 56 := by intro j hj; rw [hG] at hj; unfold gap at hj; omega
  have hG3 : (n + 1 + G) % 64 = 56 := by rw [hG]; unfold gap; omega
  have HG := Lib.hid hG
  have HG2 := Lib.hid hG2
  have HG3 := Lib.hid hG3
  have HN := Lib.hid hn
  clear hG hG2 hG3 hl hn
  go_enter Tryd.func37, Tryd.ntmps37
  go_wp2_with (first
    | (at_builtin; refine wpList_append_lies rfl (.tmp 6) (.tmp 7) rfl w.heap.size w.heap.size 0 0 [] rfl ho0 A n c x rfl hl0 (by omega) hb0.size n (Nat.zero_add n) x rfl ?_; intro g1 c1 w1 ho1 hb1; replace hb1 := hb0.trans hb1; clear ho0 hl0 hb0)
    | (at_builtin; refine wpList_append_own _ rfl (.tmp 9) (.tmp 10) _ rfl w.heap.size 5 i0 (.int .u8 0) 1 1 Tryd.underlying44 hi hz0 hz1 hz2 rfl (by decide) _ n _ rfl (ho1.alloc _) ⟨w1.heap.size, 0, none⟩ 1 1 [.int .u8 128] rfl rfl (Wire.fresh_one _ _ _) (by simp [Value.oneCell']) (by unfold maxLen; omega) (by omega) (by have := hb1.size; simp; omega) ?_; intro v2 w2 ho2 hg2 _; rw [pad_at0] at ho2; replace hb1 := (hb1.alloc hb1.size _).grown hg2 (by have := hb1.size; simp; omega) (fun k hk => (ho1.lt k hk).1); clear hg2 ho1))
  go_loopw [3] (fun v wr => ∃ (j L : Nat), j ≤ G ∧ L = n + 1 + j ∧ wr.ownsRow w.heap.size 5 1 v L ((x ++ 128 :: zeros j).map bv) ∧ Below w.heap.size w wr) (fun v _ => G + n + 1 - lenV v)
  case atStart => exact ⟨0, _, by omega, rfl, ho2, hb1⟩
  case round =>
    obtain ⟨j, L, hj, hL, hown, hb⟩ := hrel
    obtain ⟨g, cap, rfl, _⟩ := Wire.own_form hown (by omega)
    clear ho2 hb1
    rcases Nat.lt_or_ge j G with hlt | hge
    · have hm := HG2.out j hlt
      rw [← hL] at hm
      have hm2 : ¬ ((L : Int) % 64 = 56) := by omega
      have hL2 : L ≤ 1000100 := by omega
      have fin : ∀ v' w', w'.ownsRow w.heap.size 5 1 v' (L + 1) ((x ++ 128 :: zeros j).map bv ++ [.int .u8 0]) → (wr.alloc (.cells #[.int .u8 0] 5)).grownBy w' (some g) →
          ∃ (j L : Nat), j ≤ G ∧ L = n + 1 + j ∧ w'.ownsRow w.heap.size 5 1 v' L ((x ++ 128 :: zeros j).map bv) ∧ Below w.heap.size w w' := by
        intro v' w' h1 h2
        exact ⟨j + 1, L + 1, by omega, by omega, by rw [← pad_more]; exact h1, (hb.alloc hb.size _).grown h2 (by have := hb.size; simp; omega) (fun k hk => (hown.lt k hk).1)⟩
      have FIN := Lib.hid fin
      have hLG : L < G + n + 1 := by omega
      clear fin hL hm hlt hj
      go_wp2_with (at_builtin; refine wpList_append_own _ rfl (.tmp 16) (.tmp 17) _ rfl w.heap.size 5 i0 (.int .u8 0) 1 1 Tryd.underlying44 hi hz0 hz1 hz2 rfl (by decide) _ L _ rfl (hown.alloc _) ⟨wr.heap.size, 0, none⟩ 1 1 [.int .u8 0] rfl rfl (Wire.fresh_one _ _ _) (by simp [Value.oneCell']) (by unfold maxLen; omega) (by omega) (by have := hb.size; simp; omega) ?_; intro v4 w4 ho4 hg4 _)
      go_roundw
      case rel => exact FIN.out _ _ ho4 hg4
      case measure =>
        obtain ⟨g4, c4, rfl, _⟩ := Wire.own_form ho4 (by omega)
        simp [lenV]; omega
    · have hjG : j = G := by omega
      subst hjG
      have hm := HG3.out
      rw [← hL] at hm
      have hm2 : ((L : Int) % 64 = 56) := by omega
      have HL := Lib.hid hL
      have hL2 : L ≤ 1000100 := by omega
      clear hL hm hge hj
      obtain ⟨M, hM⟩ : ∃ M, M = x ++ 128 :: zeros j := ⟨_, rfl⟩
      rw [← hM] at hown
      obtain ⟨lb, hlb⟩ : ∃ lb, lb = lenBytes (8 * n) := ⟨_, rfl⟩
      have hll : lb.length = 8 := by rw [hlb]; rfl
      have hpad : pad x = M ++ lb := by rw [hM, hlb, pad, HN.out, ← HG.out]
      have hML : M.length = L := by have := hown.1; simpa using this
      have HM := Lib.hid hM
      have HLB := Lib.hid hlb
      have HLL := Lib.hid hll
      have HP := Lib.hid hpad
      have HML := Lib.hid hML
      clear hM hlb hll hpad hML
      go_wp2
      have hL0 : 0 < L := by omega
      clear hm2
      go_loopw [3, 5] (fun v iv wq => ∃ (i T : Nat), i ≤ 8 ∧ T = L + i ∧ iv = .int .i64 (i : Int) ∧ wq.ownsRow w.heap.size 5 1 v T ((M ++ lb.take i).map bv) ∧ Below w.heap.size w wq) (fun _ iv _ => (8 - intOf iv).toNat)
      case atStart => exact ⟨0, L, by omega, rfl, rfl, by simpa using hown, hb⟩
      case round =>
        clear hown hb
        obtain ⟨i, T, hi8, hT, rfl, hown, hb⟩ := hrel
        obtain ⟨g, cap, rfl, _⟩ := Wire.own_form hown (by omega)
        rcases Nat.lt_or_ge i 8 with hlt | hge
        · have z1 : (i : Int) < 8 := by omega
          have z0 : (0 : Int) ≤ (i : Int) := by omega
          have hT2 : T ≤ 1000200 := by omega
          have fin : ∀ v' w', w'.ownsRow w.heap.size 5 1 v' (T + 1) ((M ++ lb.take i).map bv ++ [.int .u8 (8 * (n : Int) / 2 ^ (56 - 8 * i) % 256)]) → (wr.alloc (.cells #[.int .u8 (8 * (n : Int) / 2 ^ (56 - 8 * i) % 256)] 5)).grownBy w' (some g) →
              ∃ (k T : Nat), k ≤ 8 ∧ T = L + k ∧ Value.int .i64 ((i : Int) + 1) = .int .i64 (k : Int) ∧ w'.ownsRow w.heap.size 5 1 v' T ((M ++ lb.take k).map bv) ∧ Below w.heap.size w w' := by
            intro v' w' h1 h2
            refine ⟨i + 1, T + 1, by omega, by omega, by go_num, ?_, (hb.alloc hb.size _).grown h2 (by have := hb.size; simp; omega) (fun k hk => (hown.lt k hk).1)⟩
            rw [len_byte n i hlt, ← HLB.out] at h1
            have e := len_more n i hlt
            rw [← HLB.out] at e
            rw [← e, ← List.append_assoc]
            simpa [bv] using h1
          have FIN := Lib.hid fin
          clear fin hT hlt hi8
          go_wp2_with (at_builtin; refine wpList_append_own _ rfl (.tmp 27) (.tmp 34) _ rfl w.heap.size 5 i0 (.int .u8 0) 1 1 Tryd.underlying44 hi hz0 hz1 hz2 rfl (by decide) _ T _ rfl (hown.alloc _) ⟨wr.heap.size, 0, none⟩ 1 1 [.int .u8 (8 * (n : Int) / 2 ^ (56 - 8 * i) % 256)] rfl rfl (Wire.fresh_one _ _ _) (by simp [Value.oneCell']) (by unfold maxLen; omega) (by omega) (by have := hb.size; simp; omega) ?_; intro v4 w4 ho4 hg4 _)
          go_roundw
          case rel => exact FIN.out _ _ ho4 hg4
          case measure => simp [intOf]; omega
        · have hi8 : i = 8 := by omega
          have z1 : ¬ (i : Int) < 8 := by omega
          have hend : Made w (pad x).length (pad x) (.returned (.slice (some ⟨g, 0, none⟩) T cap)) wr := by
            rw [List.take_of_length_le (by rw [HLL.out]; omega), ← HP.out] at hown
            have hTl : (pad x).length = T := by rw [HP.out, List.length_append, HML.out, HLL.out]; omega
            rw [hTl]
            exact ⟨g, cap, rfl, hown, hb⟩
          have HE := Lib.hid hend
          clear hend hT hge hi8 hown hb
          go_wp2
          go_ret
          exact HE.out

end Hash
end Go.Proofs.YtoenkckoomfgeaaDoor
