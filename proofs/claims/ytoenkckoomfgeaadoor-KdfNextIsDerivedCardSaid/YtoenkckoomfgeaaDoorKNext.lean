/- The walk of the statement KdfNextIsDerived. Condition: the table of the package reads as the program lays it, the seed is of at most 2^47 bytes; the package's contracts are a hypothesis here. -/
import Derived.Test.YtoenkckoomfgeaaDoorKRand
namespace Go.Proofs.YtoenkckoomfgeaaDoor
open Go.RowKit
namespace Kdf
open Hash (Table tabj bcj GivesT sizeS Arr)
open Wire (encStr bv sv Lies b1 lies_lit)

theorem str_info : (Tryd.prog.info? 9).map (fun i => (i.zero, i.size, i.bytes)) = some (some (.string ⟨#[]⟩), 1, 16) := by kernel_rfl
theorem grown1 (w : World) (g : Nat) (x : Value) : w.grownBy (w.setCells g 0 [x]) (some g) := by
  have hb := Hash.below_cells (B := g) (Nat.le_refl g) [x] 0 w
  exact ⟨hb.os, hb.tape, hb.output, hb.size, fun k hk hne => Below.heap_setCell w ⟨g, 0, none⟩ x k (by rintro rfl; exact hne rfl)⟩
theorem own_aside {w : World} {g : Nat} {e : TypeId} {v : Value} {n : Nat} {xs : List Value} (h : w.ownsRow (g + 1) e 1 v n xs) (x : Value) : (w.setCells g 0 [x]).ownsRow (g + 1) e 1 v n xs :=
  h.kept (grown1 w g x) (.inr fun e => by have := (h.lt _ e).1; omega)

theorem arr_grown {w w' : World} {row : Option Nat} {g n : Nat} {xs : List Value} (h : Arr w g n xs) (hg : w.grownBy w' row) (hn : 0 < n) (hne : some g ≠ row) : Arr w' g n xs := by
  have hb := hg.block g (h.size hn) hne
  exact h.keep (fun j => World.cell?_of_block (a := ⟨g, j, none⟩) hb) (fun j => World.frozen?_of_block (a := ⟨g, j, none⟩) hb)
theorem own_lies {w : World} {base n : Nat} {e : TypeId} {v : Value} {xs : List Value} (h : w.ownsRow base e 1 v n xs) : ∃ E c, v = .slice E n c ∧ Lies w w.heap.size 1 E n c xs := by
  rcases Nat.eq_zero_or_pos n with h0 | h0
  · subst h0
    have hx : xs = [] := by
      have := h.1
      exact List.eq_nil_of_length_eq_zero (by omega)
    subst hx
    rcases h.2 with ⟨rfl, _⟩ | ⟨g, cap, cur, rfl, hb, hg, hc, hm, _⟩
    · exact ⟨_, _, rfl, by simp, by omega, by unfold maxLen; omega, fun h => absurd h (by omega), fun h => absurd h (by omega)⟩
    · exact ⟨_, _, rfl, by simp, by omega, hm, fun _ => ⟨_, _, rfl⟩, fun h => absurd h (by omega)⟩
  · obtain ⟨g, cap, rfl, -⟩ := Wire.own_form h h0
    exact ⟨_, _, rfl, Wire.lies_own h⟩

/-- The loop: the table, the generator in block g, the labels so far. -/
structure NL (w W : World) (g k : Nat) (s : List UInt8) (v : Value) (xs : List Value) : Prop where
  o1 : 1 < w.heap.size
  t : T1 w W
  far : w.heap.size ≤ g
  gen : Arr W g 1 [.string ⟨s.toArray⟩]
  row : W.ownsRow (g + 1) 9 1 v k xs
theorem NL.on {w W W2 : World} {g k : Nat} {s : List UInt8} {v : Value} {xs : List Value} (h : NL w W g k s v xs) (hb : Below W.heap.size W W2) : NL w W2 g k s v xs :=
  ⟨h.o1, h.t.on hb, h.far, keptA h.gen hb (by omega), Wire.own_below h.row hb⟩
theorem NL.cell {w W : World} {g k : Nat} {s : List UInt8} {v : Value} {xs : List Value} (h : NL w W g k s v xs) : W.cell? ⟨g, 0, none⟩ = some (.string ⟨s.toArray⟩) := cellA h.gen
theorem NL.tab {w W W2 : World} {g k : Nat} {s : List UInt8} {v : Value} {xs : List Value} (h : NL w W g k s v xs) (hb : Below w.heap.size W W2) : T1 w W2 := ⟨h.t.rt.below hb h.o1, h.t.bel.trans hb⟩
theorem NL.put {w W : World} {g k : Nat} {s : List UInt8} {v : Value} {xs : List Value} (h : NL w W g k s v xs) (s2 : List UInt8) : NL w (W.setCells g 0 [.string ⟨s2.toArray⟩]) g k s2 v xs :=
  ⟨h.o1, h.tab (Hash.below_cells h.far _ _ _), h.far, h.gen.over rfl, own_aside h.row _⟩
theorem NL.more {w W W2 : World} {g k k2 : Nat} {s : List UInt8} {v v2 : Value} {xs ys : List Value} (h : NL w W g k s v xs) (o : Obj) (hr : W2.ownsRow (g + 1) 9 1 v2 k2 ys) (hg : (W.alloc o).grownBy W2 v.ownBlock) : NL w W2 g k2 s v2 ys := by
  have hb := ((Below.refl w.heap.size W).alloc h.t.bel.size o).grown hg (by have := h.t.bel.size; simp; omega) (fun q hq => Nat.le_trans h.far (Nat.le_of_succ_le (h.row.lt q hq).1))
  exact ⟨h.o1, h.tab hb, h.far, arr_grown (keptA h.gen (b1 W o) (by omega)) hg (by omega) (fun e => by have := (h.row.lt g e.symm).1; omega), hr⟩

set_option maxRecDepth 100000 in
set_option maxHeartbeats 2000000 in
theorem nextLaw (P : Pkg) (seed : List UInt8) (t8 : Nat) (w : World) (hk : seed.length ≤ 140737488355328) (ht : t8 < 256) (h : T1 w w) :
    Calls Tryd.prog 8 #[.string ⟨seed.toArray⟩, .int .u8 (t8 : Int)] w (Yes w) := by
  have HS := Lib.hid (sanity_any P)
  have Y := h
  have h0 := h
  have hsk := sizeS seed
  clear h
  by_cases h1 : seed.length ≤ 400
  · obtain ⟨j, hj⟩ : ∃ j, j = t8 % 21 := ⟨_, rfl⟩
    have hmod : ((t8 : Int) % 21) = (j : Int) := by rw [hj]; norm_cast
    have hj8 : j < 21 := by omega
    clear hj
    obtain ⟨i0, hi, hz0, hz1, hz2⟩ := info_parts str_info
    have HN : Hid (∀ k W, Table 1 W → Calls Tryd.prog 17 #[.agg #[.string ⟨(after seed k).toArray⟩]] W (GivesR (val (after seed k)) (after seed (k + 1)) W)) := Lib.hid (fun k W hT => P.nextP (after seed k) W (Nat.le_trans (after_length h1 (by omega) k) (by omega)) hT)
    have HP := Lib.hid P
    go_enter Tryd.func8, Tryd.ntmps8
    go_wp2_with (first
      | (go_at_call 9; (with_reducible refine (HS.out _ Y.rt).mono ?_); rintro e w1 ⟨rfl, hb⟩; replace Y := Y.on hb; clear hb))
    have hN0 : NL w (w1.alloc (.cells #[.string ⟨seed.toArray⟩] 33)) w1.heap.size 0 (after seed 0) (.slice none 0 0) ((List.replicate 0 seedL).map sv) := by
      have hb := b1 w1 (.cells #[.string ⟨seed.toArray⟩] 33)
      exact ⟨h0.rt.size, Y.on hb, Y.bel.size, Hash.arr_new w1 _ _, World.ownsRow_nil _ _ _ _⟩
    generalize w1.heap.size = g at hN0 ⊢
    clear Y h0
    go_loopw [7, 8] (fun v iv wr => ∃ (k : Nat), k ≤ j ∧ iv = .int .i64 (k : Int) ∧ NL w wr g k (after seed k) v ((List.replicate k seedL).map sv)) (fun _ iv _ => j - (intOf iv).toNat)
    case atStart => exact ⟨0, by omega, rfl, hN0⟩
    case round =>
      clear hN0
      obtain ⟨k, hkj, rfl, hq⟩ := hrel
      have y0 : (0 : Int) ≤ (k : Int) := by omega
      have hr1 : (List.replicate k seedL).map sv ++ [.string ⟨#[115, 101, 101, 100]⟩] = (List.replicate (k + 1) seedL).map sv := by
        rw [List.replicate_succ', List.map_append]; rfl
      by_cases hlt : k < j
      · have HC := Lib.hid (HN.out k)
        have HR := Lib.hid hr1
        generalize val (after seed k) = V at HC
        obtain ⟨S2, hS2⟩ : ∃ S2, S2 = after seed (k + 1) := ⟨_, rfl⟩
        rw [← hS2] at HC
        have HS2 := Lib.hid hS2
        clear hS2
        generalize after seed k = S at hq HC
        have y1 : (k : Int) < (j : Int) := by omega
        have hc := hq.cell
        clear hr1
        go_wp2_with (first
          | (go_at_call 17; (with_reducible refine (HC.out _ hq.t.rt).mono ?_); rintro e w2 ⟨rfl, hb⟩; replace hq := hq.on hb; clear hb)
          | ((with_reducible refine Hash.at_store 33 (.tmp 6) (.tmp 32) rfl ?_); replace hq := hq.on (b1 w2 (.cells #[.string ⟨S2.toArray⟩] 33)); refine wpList_store_mid rfl 33 (.tmp 6) (.tmp 32) rfl g 0 #[.string ⟨S2.toArray⟩] rfl rfl hq.gen.there (by kernel_rfl) (by simp [Value.oneCell']) ?_; replace hq := hq.put S2; refine Hash.gen_world (Pq := fun W => NL w W g k S2 u7 ((List.replicate k seedL).map sv)) (G := fun W => wpList _ _ _ _ _ W) hq ?_; clear hq; intro w3 hq; simp only [Act.put])
          | (at_builtin; refine wpList_append_own _ rfl (.tmp 33) (.tmp 34) _ rfl (g + 1) 9 i0 (.string ⟨#[]⟩) 1 16 Tryd.underlying22 hi hz0 hz1 hz2 rfl (by decide) _ k _ rfl (hq.row.alloc _) ⟨w3.heap.size, 0, none⟩ 1 1 [.string ⟨#[115, 101, 101, 100]⟩] rfl rfl (Wire.fresh_one _ _ _) (by intro y hy; simp at hy; subst hy; rfl) (by unfold maxLen; omega) (by omega) (by have := hq.gen.size (by omega); simp; omega) ?_; intro v4 w4 ho4 hg4 _; rw [HR.out] at ho4; replace hq := hq.more _ ho4 hg4))
        go_roundw
        case rel => exact ⟨k + 1, by omega, by go_num, by rw [← HS2.out]; exact hq⟩
        case measure => simp [intOf]; omega
      · have hkj2 : k = j := by omega
        subst hkj2
        have y1 : ¬ (k : Int) < (k : Int) := by omega
        have HC := Lib.hid (HN.out k)
        have hr2 : (List.replicate k seedL).map sv ++ [.string ⟨#[118, 97, 108, 117, 101]⟩] = (List.replicate k seedL ++ [valueL]).map sv := by
          rw [List.map_append]; rfl
        have HR := Lib.hid hr2
        have HE : Hid (∀ (E : Option Addr) (c : Nat) (W : World), Lies W W.heap.size 1 E (k + 1) c ((List.replicate k seedL ++ [valueL]).map sv) → Table 1 W → Calls Tryd.prog 13 #[.string ⟨seed.toArray⟩, .slice E ((k + 1 : Nat)) c] W (GivesT (val (after seed k)) W)) := Lib.hid (fun E c W hL hT => by
          have := HP.out.pathP seed (List.replicate k seedL ++ [valueL]) (k + 1) c E W hL (by omega) (fun s hs => by
            rcases List.mem_append.1 hs with h | h
            · rw [List.eq_of_mem_replicate h]; decide
            · simp at h; subst h; decide) hT
          rwa [path_value] at this)
        generalize List.replicate k seedL ++ [valueL] = L at HR HE
        have q1 := eqT (val (after seed k))
        generalize val (after seed k) = V at HC HE q1
        generalize after seed (k + 1) = S2 at HC
        generalize after seed k = S at hq HC
        have hc := hq.cell
        clear hr1 hr2 hlt
        go_wp2_with (first
          | (go_at_call 17; (with_reducible refine (HC.out _ hq.t.rt).mono ?_); rintro e w2 ⟨rfl, hb⟩; replace hq := hq.on hb; clear hb)
          | (go_at_call 13; (with_reducible refine (HE.out _ _ _ hL hq.t.rt).mono ?_); rintro e w6 ⟨rfl, hb⟩; replace hq := hq.on hb; clear hb)
          | (at_builtin; replace hq := hq.on (b1 w2 (.cells #[.string ⟨S2.toArray⟩] 33)); have hfr := Wire.fresh_one (w2.alloc (.cells #[.string ⟨S2.toArray⟩] 33)) (.string ⟨#[118, 97, 108, 117, 101]⟩) 9; rw [show (w2.alloc (.cells #[.string ⟨S2.toArray⟩] 33)).heap.size = w2.heap.size + 1 by simp] at hfr; refine wpList_append_own _ rfl (.tmp 41) (.tmp 42) _ rfl (g + 1) 9 i0 (.string ⟨#[]⟩) 1 16 Tryd.underlying22 hi hz0 hz1 hz2 rfl (by decide) _ k _ rfl (hq.row.alloc _) ⟨w2.heap.size + 1, 0, none⟩ 1 1 [.string ⟨#[118, 97, 108, 117, 101]⟩] rfl rfl hfr (by intro y hy; simp at hy; subst hy; rfl) (by unfold maxLen; omega) (by omega) (by have := hq.gen.size (by omega); simp; simp at this; omega) ?_; intro v4 w4 ho4 hg4 _; rw [HR.out] at ho4; replace hq := hq.more _ ho4 hg4; obtain ⟨E, c4, rfl, hL⟩ := own_lies hq.row))
        go_ret
        exact ⟨rfl, hq.t.bel⟩
  · clear P
    go_enter Tryd.func8, Tryd.ntmps8
    go_wp2_with (first
      | (go_at_call 9; (with_reducible refine (HS.out _ Y.rt).mono ?_); rintro e w1 ⟨rfl, hb⟩; replace Y := Y.on hb; clear hb))
    all_goals
      go_ret
      exact ⟨rfl, Y.bel⟩

end Kdf
end Go.Proofs.YtoenkckoomfgeaaDoor
