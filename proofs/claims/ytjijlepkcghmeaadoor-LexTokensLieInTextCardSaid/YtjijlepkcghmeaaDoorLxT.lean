/- The reference of package lex: Tokens. No condition. -/
import Derived.Test.YtjijlepkcghmeaaDoorLxM
import Derived.Test.YtjijlepkcghmeaaDoorWUtil
namespace Go.Proofs.YtjijlepkcghmeaaDoor
open Go.RowKit
namespace Lx
open Wire (bv sv Lies own_below own_more)
open Hash (Arr)

theorem skip_skip : ∀ (b : Bool) (s : List UInt8), skip false (skip b s) = skip b s
  | b, [] => by cases b <;> simp [skip]
  | true, c :: r => by
    rw [skip]
    split
    · exact skip_skip false r
    · exact skip_skip true r
  | false, c :: r => by
    rw [skip]
    split
    · exact skip_skip true r
    · rename_i h1
      split
      · exact skip_skip false r
      · rename_i h2
        rw [skip, if_neg h1, if_neg h2]
theorem one_kind {s : List UInt8} {k m n : Nat} (h : one s = some (k, m, n)) : 1 ≤ k := by
  unfold one at h
  split at h
  · cases h; decide
  · split at h
    · cases hn : num s with
      | none => rw [hn] at h; cases h
      | some p => rw [hn] at h; cases h; decide
    · split at h
      · cases h
      · cases h; decide
/-- The index behind what is skipped, and what is left there. -/
def skipAt (t : List UInt8) (i : Nat) : Nat := t.length - (skip false (t.drop i)).length
theorem skipAt_drop (t : List UInt8) (i : Nat) (hi : i ≤ t.length) : t.drop (skipAt t i) = skip false (t.drop i) ∧ i ≤ skipAt t i ∧ skipAt t i ≤ t.length := by
  have h1 := (skip_parts false (t.drop i)).2
  have h2 := skip_le false (t.drop i)
  rw [List.length_drop] at h1 h2
  unfold skipAt
  rw [List.drop_drop, show i + (t.length - i - (skip false (t.drop i)).length) = t.length - (skip false (t.drop i)).length by omega] at h1
  exact ⟨h1, by omega, by omega⟩
/-- What Tokens answers. -/
def read (t : List UInt8) : Res := if 4000 < t.length then .bad 0 2 else toks 0 t
def Res.list : Res → List Tok
  | .ok l => l
  | .bad _ _ => []
def Res.at_ : Res → Nat
  | .ok _ => 0
  | .bad p _ => p
def Res.err : Res → Nat
  | .ok _ => 0
  | .bad _ e => e
theorem after_nil (r : Res) : r.after [] = r := by cases r <;> rfl
theorem after_cons (l : List Tok) (t : Tok) (r : Res) : (r.cons t).after l = r.after (l ++ [t]) := by
  cases r with
  | ok m => show Res.ok _ = Res.ok _; rw [List.append_assoc]; rfl
  | bad p e => rfl
/-- A result of Tokens is returned. -/
def GivesRd (r : Res) (w : World) (e : Ending) (w' : World) : Prop :=
  ∃ v n, e = .returned (.agg #[v, .int .i64 (r.at_ : Int), .int .i64 (r.err : Int)]) ∧ OwnK w' w.heap.size v n (r.list.map Tok.ti) ∧ Below w.heap.size w w'

theorem load_rd {W : World} {g : Nat} {v : Value} {p e : Int} (h : Arr W g 3 [v, .int .i64 p, .int .i64 e]) : (loadVar 28 ⟨g, 0, none⟩).run Tryd.prog W = .ok (.agg #[v, .int .i64 p, .int .i64 e]) W :=
  run_loadVar_mid (P := Tryd.prog) _ g 0 28 [v, .int .i64 p, .int .i64 e] _ h.range Tryd.underlying28 rfl (by kernel_rfl)
/-- What stands in the loop: the result's block, the tokens so far. -/
structure Tl (w W : World) (v : Value) (n : Nat) (l : List Tok) : Prop where
  r : Arr W w.heap.size 3 [.slice none 0 0, .int .i64 0, .int .i64 0]
  own : OwnK W (w.heap.size + 1) v n (l.map Tok.ti)
  z : Below w.heap.size w W
  lt : w.heap.size < W.heap.size
theorem Tl.on {w W W' : World} {v : Value} {n : Nat} {l : List Tok} (h : Tl w W v n l) (hb : Below W.heap.size W W') : Tl w W' v n l :=
  ⟨h.r.below hb h.lt, h.own.on hb, Wire.bc h.z hb, Nat.lt_of_lt_of_le h.lt hb.size⟩
theorem heap_cells {g k : Nat} (h : k ≠ g) : ∀ (vs : List Value) (o : Nat) (w : World), (w.setCells g o vs).heap[k]? = w.heap[k]?
  | [], _, _ => rfl
  | v :: r, o, w => (heap_cells h r (o + 1) _).trans (Below.heap_setCell w ⟨g, o, none⟩ v k h)
theorem OwnK.cells {w : World} {base n g : Nat} {v : Value} {l : List TI} (h : OwnK w base v n l) (hg : g < base) (vs : List Value) : OwnK (w.setCells g 0 vs) base v n l := by
  refine ⟨⟨h.own.1, ?_⟩⟩
  rcases h.own.2 with h2 | ⟨g2, cap, cur, hv, hb, hh, r⟩
  · exact .inl h2
  · exact .inr ⟨g2, cap, cur, hv, hb, by rw [heap_cells (by omega)]; exact hh, r⟩
/-- The result's block is filled. -/
structure Te (w W : World) (v : Value) (n : Nat) (l : List TI) (p e : Int) : Prop where
  r : Arr W w.heap.size 3 [v, .int .i64 p, .int .i64 e]
  own : OwnK W (w.heap.size + 1) v n l
  z : Below w.heap.size w W
theorem te_of {w W : World} {v0 v : Value} {n0 n : Nat} {l0 : List Tok} {l : List TI} (h : Tl w W v0 n0 l0) (ho : OwnK W (w.heap.size + 1) v n l) (p e : Int) : Te w (W.setCells w.heap.size 0 [v, .int .i64 p, .int .i64 e]) v n l p e :=
  ⟨h.r.over rfl, ho.cells (Nat.lt_succ_self _) _, h.z.trans (Hash.below_cells (Nat.le_refl _) _ _ _)⟩
theorem own_one {w : World} {base n : Nat} {v : Value} {l : List TI} (h : OwnK w base v n l) : v.oneCell' = true := by
  obtain ⟨A, c, rfl, _⟩ := h.form
  rfl
theorem there_rd {W : World} {g : Nat} {v : Value} {p e : Int} (h : Arr W g 3 [v, .int .i64 p, .int .i64 e]) : W.there g 0 3 := h.there
theorem one_rd {v : Value} (h : v.oneCell' = true) (p e : Int) : (#[v, .int .i64 p, .int .i64 e] : Array Value).all (·.oneCell') = true := by
  cases v <;> first | (cases h; done) | simp [Value.oneCell']
section
variable {ops : Array Oper} {rest : List Oper} {o : Oper} {a : Act} {w : World} {Q : Exit → Act → World → Prop}
theorem store_rd (x y : Operand) (ho : o.op = .store 28 x y) (hgd : o.guard = none) (g : Nat) (hx : a.eval x = .pointer (some ⟨g, 0, none⟩)) (v : Value) (p e : Int) (hy : a.eval y = .agg #[v, .int .i64 p, .int .i64 e]) (hv : v.oneCell' = true) (ht : w.there g 0 3)
    (h : wpList Tryd.prog ops Q rest (a.put o.dst undef) (w.setCells g 0 [v, .int .i64 p, .int .i64 e])) : wpList Tryd.prog ops Q (o :: rest) a w :=
  wpList_store_mid hgd 28 x y ho g 0 #[v, .int .i64 p, .int .i64 e] hx hy ht (by kernel_rfl) (one_rd hv p e) h
end
theorem lit_k (w : World) (o : Obj) (t : TI) (T : TypeId) : ((w.alloc o).alloc (.cells t.cells.toArray T)).rangeAt (w.heap.size + 1) 0 t.cells := by
  have h := Hash.arr_new (w.alloc o) t.cells.toArray T
  rw [World.size_alloc] at h
  exact h.range
/-- Behind the append of a token: the tokens so far, and the token's own block. -/
theorem tok_kept {w w1 w6 : World} {v v6 : Value} {n k nn i : Nat} {l : List Tok} {x : List UInt8} {T : TypeId} {o : Obj} (Y : Tl w w1 v n l) (ho : OwnK w6 (w.heap.size + 1) v6 (n + 1) (l.map Tok.ti ++ [⟨(k : Int), x, (nn : Int), (i : Int)⟩]))
    (hb : Below (w.heap.size + 1) ((w1.alloc (.cells #[.int .i64 (k : Int), .string ⟨x.toArray⟩, .int .i64 (nn : Int), .int .i64 (i : Int)] T)).alloc o) w6)
    (hg : ((w1.alloc (.cells #[.int .i64 (k : Int), .string ⟨x.toArray⟩, .int .i64 (nn : Int), .int .i64 (i : Int)] T)).alloc o).grownBy w6 v.ownBlock) :
    Tl w w6 v6 (n + 1) (l ++ [⟨k, x, nn, i⟩]) ∧ w6.cell? ⟨w1.heap.size, 1, none⟩ = some (.string ⟨x.toArray⟩) := by
  have hA := Hash.arr_new w1 #[.int .i64 (k : Int), .string ⟨x.toArray⟩, .int .i64 (nn : Int), .int .i64 (i : Int)] T
  have hlt : w1.heap.size < (w1.alloc (.cells #[.int .i64 (k : Int), .string ⟨x.toArray⟩, .int .i64 (nn : Int), .int .i64 (i : Int)] T)).heap.size := by rw [World.size_alloc]; exact Nat.lt_succ_self _
  have hA2 := hA.below (Wire.b1 _ o) hlt
  have b2 : Below w1.heap.size w1 ((w1.alloc (.cells #[.int .i64 (k : Int), .string ⟨x.toArray⟩, .int .i64 (nn : Int), .int .i64 (i : Int)] T)).alloc o) := Wire.bc (Wire.b1 _ _) (Wire.b1 _ _)
  have hlt2 := Nat.lt_of_lt_of_le hlt (Wire.b1 _ o).size
  have Y2 := Y.on b2
  have hne : ∀ j, some j = v.ownBlock → j < w1.heap.size := fun j hj => (Y.own.own.lt j hj.symm).2
  refine ⟨⟨Y2.r.below hb (Nat.lt_succ_self _), by rw [List.map_append]; exact ho, Y2.z.trans (hb.mono (Nat.le_succ _)), Nat.lt_of_lt_of_le Y2.lt hb.size⟩, ?_⟩
  have hblk := hg.block w1.heap.size hlt2 (fun e => Nat.lt_irrefl _ (hne _ e))
  rw [World.cell?_of_block (a := ⟨w1.heap.size, 1, none⟩) hblk]
  exact hA2.cells 1 _ rfl
theorem gen_world {W' : World} {Pq G : World → Prop} (h : Pq W') (k : ∀ W, Pq W → G W) : G W' := k _ h
set_option maxRecDepth 100000 in
set_option maxHeartbeats 2000000 in
theorem refTokens_long (t : List UInt8) (hl : 4000 < t.length) (w : World) :
    Calls Tryd.prog 11 #[.string ⟨t.toArray⟩] w (GivesRd (read t) w) := by
  have hs := size_of t
  unfold read
  rw [if_pos hl]
  have z0 : (4000 : Int) < (t.length : Int) := by omega
  generalize (⟨t.toArray⟩ : ByteArray) = T at *
  go_enter Tryd.func11, Tryd.ntmps11
  go_wp2
  refine bodyPost_ret (v := .agg #[.slice none 0 0, .int .i64 0, .int .i64 2]) ?_ rfl ⟨_, 0, rfl, ownK_nil _ _, Wire.b1 _ _⟩
  simp [results, Tryd.results11, asAddr]
  rw [load_rd (Hash.arr_new w #[.slice none 0 0, .int .i64 0, .int .i64 2] _)]

set_option maxRecDepth 100000 in
set_option maxHeartbeats 4000000 in
theorem refTokens_any (t : List UInt8) (hl : t.length ≤ 4000) (w : World) :
    Calls Tryd.prog 11 #[.string ⟨t.toArray⟩] w (GivesRd (toks 0 t) w) := by
  have hs := size_of t
  have hl2 : t.length ≤ 1048576 := Nat.le_trans hl (by decide)
  have HLN := Lib.hid hl
  have HSK : Hid (∀ i, i ≤ t.length → ∀ W, Calls Tryd.prog 19 #[.string ⟨t.toArray⟩, .int .i64 (i : Int)] W (Is (.int .i64 (skipAt t i : Int)) W)) := Lib.hid (fun i hi W => refSkip_any t i hi hl2 W)
  have HS0 : Hid (∀ W, Calls Tryd.prog 19 #[.string ⟨t.toArray⟩, .int .i64 0] W (Is (.int .i64 (skipAt t 0 : Int)) W)) := Lib.hid (fun W => refSkip_any t 0 (Nat.zero_le _) hl2 W)
  have HON : Hid (∀ i k m n, i < t.length → one (t.drop i) = some (k, m, n) → ∀ W, Calls Tryd.prog 20 #[.string ⟨t.toArray⟩, .int .i64 (i : Int)] W (fun e w' => e = .returned (.agg #[.int .i64 (k : Int), .string ⟨((t.drop i).take m).toArray⟩, .int .i64 (n : Int), .int .i64 (i : Int)]) ∧ Below W.heap.size W w')) := Lib.hid (fun i k m n hi h W => refOne_some t i k m n hi hl2 W h)
  have HNO : Hid (∀ i, i < t.length → one (t.drop i) = none → ∀ W, Calls Tryd.prog 20 #[.string ⟨t.toArray⟩, .int .i64 (i : Int)] W (fun e w' => e = .returned (.agg #[.int .i64 0, .string ⟨#[]⟩, .int .i64 0, .int .i64 0]) ∧ Below W.heap.size W w')) := Lib.hid (fun i hi h W => refOne_none t i hi hl2 W h)
  have z0 : ¬ (4000 : Int) < (t.length : Int) := by omega
  have hsk0 := skipAt_drop t 0 (Nat.zero_le _)
  rw [List.drop_zero] at hsk0
  have HS0D : Hid (skipAt t 0 ≤ t.length ∧ skip false (t.drop (skipAt t 0)) = t.drop (skipAt t 0) ∧ toks 0 t = (toks (skipAt t 0) (t.drop (skipAt t 0))).after [] ∧ 0 ≤ skipAt t 0) := Lib.hid (by
    refine ⟨hsk0.2.2, by rw [hsk0.1, skip_skip], ?_, Nat.zero_le _⟩
    rw [after_nil, toks_skip 0 (s := t) (b := t.drop (skipAt t 0)) (by rw [hsk0.1, skip_skip]) (by rw [List.length_drop]; omega), List.length_drop]
    congr 1
    have := hsk0.2.2
    omega)
  generalize (⟨t.toArray⟩ : ByteArray) = T at *
  clear hl hl2 hsk0
  go_enter Tryd.func11, Tryd.ntmps11
  go_wp2_with (first
    | (go_at_call 19; (with_reducible refine (HS0.out _).mono ?_); rintro e w1 ⟨rfl, rfl⟩))
  have Y : Tl w (w.alloc (.cells #[.slice none 0 0, .int .i64 0, .int .i64 0] 28)) (.slice none 0 0) 0 [] := ⟨Hash.arr_new w #[.slice none 0 0, .int .i64 0, .int .i64 0] _, ownK_nil _ _, Wire.b1 _ _, by rw [World.size_alloc]; exact Nat.lt_succ_self _⟩
  go_loopw [3, 4, 5] (fun ov iv _ wr => ∃ (i : Nat) (v : Value) (n : Nat) (l : List Tok), Hid (i ≤ t.length ∧ skip false (t.drop i) = t.drop i ∧ toks 0 t = (toks i (t.drop i)).after l ∧ n ≤ i) ∧ v = ov ∧ iv = .int .i64 (i : Int) ∧ Tl w wr v n l) (fun _ iv _ _ => ((t.length : Int) - intOf iv).toNat)
  case atStart => exact ⟨skipAt t 0, _, 0, [], HS0D, rfl, rfl, Y⟩
  case round =>
    clear Y HS0 HS0D
    obtain ⟨i, v, n, l, HT, rfl, rfl, Y⟩ := hrel
    by_cases hi : i < t.length
    · have z1 : (i : Int) < (t.length : Int) := by omega
      have HIL := Lib.hid hi
      cases h1 : one (t.drop i) with
      | none =>
        have HO := Lib.hid (HNO.out i hi h1)
        have HR : Hid (toks 0 t = .bad i 3) := Lib.hid (by
          rw [HT.out.2.2.1, toks_eq, HT.out.2.1, if_neg (by intro e; have := congrArg List.length e; rw [List.length_drop, List.length_nil] at this; omega), h1, Nat.sub_self]
          rfl)
        clear hi h1
        go_wp2_with (first
          | (go_at_call 20; (with_reducible refine (HO.out _).mono ?_); rintro e w1 ⟨rfl, hb⟩; replace Y := Y.on hb; clear hb)
          | (refine store_rd (.tmp 2) (.tmp 26) rfl rfl w.heap.size rfl (.slice none 0 0) i 3 rfl rfl (there_rd (Y.on (Wire.b1 _ _)).r) ?_; refine gen_world (Pq := fun W => Te w W (.slice none 0 0) 0 [] i 3) (G := fun W => wpList _ _ _ _ _ W) (te_of (Y.on (Wire.b1 _ _)) (ownK_nil _ _) _ _) ?_; clear Y; intro W5 Y))
        rw [HR.out]
        refine bodyPost_ret (v := .agg #[.slice none 0 0, .int .i64 (i : Int), .int .i64 3]) ?_ rfl ⟨_, 0, rfl, ownK_nil _ _, Y.z⟩
        simp [results, Tryd.results11, asAddr, Act.put]
        rw [load_rd Y.r]
      | some p =>
        obtain ⟨k, m, nn⟩ := p
        have hm := one_len h1
        have hk := one_kind h1
        have HO := Lib.hid (HON.out i k m nn hi h1)
        have hne : ¬ t.drop i = [] := by intro e; have := congrArg List.length e; rw [List.length_drop, List.length_nil] at this; omega
        have HEQ : Hid (toks 0 t = (if 1099511627776 < nn then Res.bad i 2 else (toks (i + m) (t.drop (i + m))).cons ⟨k, (t.drop i).take m, nn, i⟩).after l) := Lib.hid (by
          rw [HT.out.2.2.1, toks_eq, HT.out.2.1, if_neg hne, h1, Nat.sub_self, Nat.add_zero]
          simp only []
          rw [List.drop_drop])
        have k0 : ((k : Int) == 0) = false := by simp; omega
        rw [List.length_drop] at hm
        have HM := Lib.hid hm
        have htl : ((t.drop i).take m).length = m := by rw [List.length_take, List.length_drop]; omega
        obtain ⟨x, hx⟩ : ∃ x, x = (t.drop i).take m := ⟨_, rfl⟩
        rw [← hx] at htl HO HEQ
        have hxs := size_of x
        rw [htl] at hxs
        by_cases hbig : 1099511627776 < nn
        · have z2 : (1099511627776 : Int) < (nn : Int) := by omega
          have HR : Hid (toks 0 t = .bad i 2) := Lib.hid (by rw [HEQ.out, if_pos hbig]; rfl)
          clear hi h1 hm hk hne htl hx hbig
          generalize (⟨x.toArray⟩ : ByteArray) = X at *
          go_wp2_with (first
            | (go_at_call 20; (with_reducible refine (HO.out _).mono ?_); rintro e w1 ⟨rfl, hb⟩; replace Y := Y.on hb; clear hb)
            | (refine store_rd (.tmp 2) (.tmp 31) rfl rfl w.heap.size rfl (.slice none 0 0) i 2 rfl rfl (there_rd (Y.on (Wire.b1 _ _)).r) ?_; refine gen_world (Pq := fun W => Te w W (.slice none 0 0) 0 [] i 2) (G := fun W => wpList _ _ _ _ _ W) (te_of (Y.on (Wire.b1 _ _)) (ownK_nil _ _) _ _) ?_; clear Y; intro W5 Y))
          rw [HR.out]
          refine bodyPost_ret (v := .agg #[.slice none 0 0, .int .i64 (i : Int), .int .i64 2]) ?_ rfl ⟨_, 0, rfl, ownK_nil _ _, Y.z⟩
          simp [results, Tryd.results11, asAddr, Act.put]
          rw [load_rd Y.r]
        · have z2 : ¬ (1099511627776 : Int) < (nn : Int) := by omega
          have HSM : Hid (∀ W, Calls Tryd.prog 19 #[.string T, .int .i64 ((i : Int) + (m : Int))] W (Is (.int .i64 (skipAt t (i + m) : Int)) W)) := Lib.hid (fun W => by rw [← Int.natCast_add]; exact HSK.out (i + m) (by omega) W)
          have HI2 : Hid (skipAt t (i + m) ≤ t.length ∧ skip false (t.drop (skipAt t (i + m))) = t.drop (skipAt t (i + m)) ∧ toks 0 t = (toks (skipAt t (i + m)) (t.drop (skipAt t (i + m)))).after (l ++ [⟨k, x, nn, i⟩]) ∧ n + 1 ≤ skipAt t (i + m) ∧ i < skipAt t (i + m)) := Lib.hid (by
            have hsk := skipAt_drop t (i + m) (by omega)
            have hn := HT.out.2.2.2
            refine ⟨hsk.2.2, by rw [hsk.1, skip_skip], ?_, by omega, by omega⟩
            rw [HEQ.out, if_neg hbig, after_cons, toks_skip (i + m) (s := t.drop (i + m)) (b := t.drop (skipAt t (i + m))) (by rw [hsk.1, skip_skip]) (by rw [List.length_drop, List.length_drop]; omega), List.length_drop, List.length_drop]
            rw [show i + m + (t.length - (i + m) - (t.length - skipAt t (i + m))) = skipAt t (i + m) by omega])
          have HNL : Hid (n ≤ 1099511627776) := Lib.hid (by have := HT.out.2.2.2; omega)
          have z3 : (m : Int) ≤ 1048576 := by have := HLN.out; omega
          have z4 : (i : Int) ≤ 1048576 := by have := HLN.out; omega
          clear hi h1 hm hk hne htl hx hbig
          go_wp2_with (first
            | (go_at_call 20; (with_reducible refine (HO.out _).mono ?_); rintro e w1 ⟨rfl, hb⟩; replace Y := Y.on hb; clear hb)
            | (at_builtin; refine append_k rfl _ _ rfl (w.heap.size + 1) v n (l.map Tok.ti) rfl (Y.own.on (Wire.bc (Wire.b1 _ _) (Wire.b1 _ _))) (w1.heap.size + 1) rfl ⟨(k : Int), x, (nn : Int), (i : Int)⟩ (lit_k _ _ _ _) HNL.out (Nat.le_trans Y.lt (Wire.bc (Wire.b1 _ _) (Wire.b1 _ _)).size) ?_; intro v6 w6 ho6 hb6 hg6; have hc6 := tok_kept Y ho6 hb6 hg6; refine gen_world (Pq := fun W => Tl w W v6 (n + 1) (l ++ [⟨k, x, nn, i⟩]) ∧ W.cell? ⟨w1.heap.size, 1, none⟩ = some (.string ⟨x.toArray⟩)) (G := fun W => wpList _ _ _ _ _ W) hc6 ?_; clear Y ho6 hb6 hg6 hc6; intro w7 Y; have hcell := Y.2)
            | (go_at_call 19; (with_reducible refine (HSM.out _).mono ?_); rintro e w8 ⟨rfl, rfl⟩))
          go_roundw
          case rel => exact ⟨skipAt t (i + m), _, n + 1, _, Lib.hid ⟨HI2.out.1, HI2.out.2.1, HI2.out.2.2.1, HI2.out.2.2.2.1⟩, rfl, rfl, Y.1⟩
          case measure => have := HI2.out.2.2.2.2; have := HIL.out; simp [intOf]; omega
    · have z1 : ¬ (i : Int) < (t.length : Int) := by omega
      have HR : Hid (toks 0 t = .ok l) := Lib.hid (by
        have e : t.drop i = [] := List.drop_eq_nil_of_le (by omega)
        rw [HT.out.2.2.1, e, toks_gap i rfl]
        show Res.ok _ = _
        rw [List.append_nil])
      clear hi
      obtain ⟨A, c, rfl, _⟩ := Y.own.form
      go_wp2_with (first
        | (refine store_rd (.tmp 2) (.tmp 42) rfl rfl w.heap.size rfl (.slice A n c) 0 0 rfl (own_one Y.own) (there_rd Y.r) ?_; refine gen_world (Pq := fun W => Te w W (.slice A n c) n (l.map Tok.ti) 0 0) (G := fun W => wpList _ _ _ _ _ W) (te_of Y Y.own _ _) ?_; clear Y; intro W5 Y))
      rw [HR.out]
      refine bodyPost_ret (v := .agg #[.slice A n c, .int .i64 0, .int .i64 0]) ?_ rfl ⟨_, n, rfl, Y.own.more (Nat.le_succ _), Y.z⟩
      simp [results, Tryd.results11, asAddr]
      rw [load_rd Y.r]
end Lx
end Go.Proofs.YtjijlepkcghmeaaDoor
