/- LexGapsDoNotMatter walked. Conditions: what the package answers, what came in. -/
import Derived.Test.YtjijlepkcghmeaaDoorLxG2
namespace Go.Proofs.YtjijlepkcghmeaaDoor
open Go.RowKit
namespace Lx
open Wire (bv sv Lies)
open Hash (Arr)

set_option maxRecDepth 100000 in
set_option maxHeartbeats 4000000 in
theorem law_gaps_long {T : World → Prop} (pk : Pkg T) (a b c : List UInt8) (w : World) (ht : T w) (hl : 1000 < a.length ∨ 1000 < b.length ∨ 1000 < c.length) : Calls Tryd.prog 8 #[.string ⟨a.toArray⟩, .string ⟨b.toArray⟩, .string ⟨c.toArray⟩] w (GivesB true w) := by
  have Z := Below.refl w.heap.size w
  have hsa := size_of a
  have hsb := size_of b
  have hsc := size_of c
  have HSA := Lib.hid (fun W (h : Below w.heap.size w W) => sanity_any pk W (pk.on _ _ h ht))
  have hl2 : (1000 : Int) < (a.length : Int) ∨ (¬ (1000 : Int) < (a.length : Int) ∧ (1000 : Int) < (b.length : Int)) ∨ (¬ (1000 : Int) < (a.length : Int) ∧ ¬ (1000 : Int) < (b.length : Int) ∧ (1000 : Int) < (c.length : Int)) := by omega
  generalize (⟨a.toArray⟩ : ByteArray) = XA at *
  generalize (⟨b.toArray⟩ : ByteArray) = XB at *
  generalize (⟨c.toArray⟩ : ByteArray) = XC at *
  clear hl ht
  rcases hl2 with z0 | ⟨z0, z1⟩ | ⟨z0, z1, z2⟩
  all_goals
    go_enter Tryd.func8, Tryd.ntmps8
    go_wp2_with (first
      | (go_at_call 9; (with_reducible refine (HSA.out _ Z).mono ?_); rintro e w1 ⟨rfl, hb⟩; replace Z := Wire.bc Z hb; clear hb))
    go_ret
    exact ⟨rfl, Z⟩

theorem own_some {W : World} {base n c : Nat} {A : Option Addr} {l : List TI} (h : OwnK W base (.slice A n c) n l) (hn : 0 < n) : ∃ g, A = some ⟨g, 0, none⟩ := by
  rcases h.own.2 with ⟨_, h0⟩ | ⟨g2, cap, cur, e, _⟩
  · omega
  · cases e; exact ⟨g2, rfl⟩
/-- The rows behind the three calls: the first and the third as they were given, the second as it is changed. -/
structure Gp (w W : World) (v1 v3 : Value) (n1 n3 : Nat) (L ALL : List TI) (g n2 : Nat) (M : List TI) : Prop where
  z : Below w.heap.size w W
  o1 : OwnK W w.heap.size v1 n1 L
  o3 : OwnK W w.heap.size v3 n3 ALL
  m : Arr W g (n2 * 4) (cellsK M)
  lt : g < W.heap.size
  ne1 : ∀ j, v1.ownBlock = some j → j ≠ g
  ne3 : ∀ j, v3.ownBlock = some j → j ≠ g
  base : w.heap.size ≤ g
section
variable {w W W' : World} {v1 v3 : Value} {n1 n3 g n2 : Nat} {L ALL M M' : List TI}
theorem Gp.on (h : Gp w W v1 v3 n1 n3 L ALL g n2 M) (hb : Below W.heap.size W W') : Gp w W' v1 v3 n1 n3 L ALL g n2 M :=
  ⟨Wire.bc h.z hb, h.o1.on hb, h.o3.on hb, h.m.below hb h.lt, Nat.lt_of_lt_of_le h.lt hb.size, h.ne1, h.ne3, h.base⟩
theorem Gp.step (h : Gp w W v1 v3 n1 n3 L ALL g n2 M) {i : Nat} {t : TI} {p : Int} (ht : M[i]? = some t) (hi : i < n2) : Gp w (W.setCell ⟨g, i * 4 + 3, none⟩ (.int .i64 p)) v1 v3 n1 n3 L ALL g n2 (M.set i ⟨t.kind, t.text, t.n, p⟩) := by
  have hb : Below w.heap.size W (W.setCells g (i * 4 + 3) [.int .i64 p]) := Hash.below_cells h.base _ _ _
  refine ⟨h.z.trans hb, h.o1.aside h.ne1 _ _, h.o3.aside h.ne3 _ _, ?_, Nat.lt_of_lt_of_le h.lt hb.size, h.ne1, h.ne3, h.base⟩
  rw [← cellsK_set M i t p ht]
  exact h.m.set (by omega) _
theorem Gp.cell (h : Gp w W v1 v3 n1 n3 L ALL g n2 M) {i : Nat} {t : TI} (ht : M[i]? = some t) (hi : i < n2) : W.cell? ⟨g, i * 4 + 3, none⟩ = some (.int .i64 t.pos) ∧ W.frozen? ⟨g, i * 4 + 3, none⟩ = false :=
  ⟨h.m.cells _ _ (cellsK_at ht (i := 3) rfl), h.m.free _ (by omega)⟩
end

set_option maxRecDepth 100000 in
set_option maxHeartbeats 16000000 in
theorem law_gaps_any {T : World → Prop} (pk : Pkg T) (a b c : List UInt8) (w : World) (ht : T w) (hl : ¬ (1000 < a.length ∨ 1000 < b.length ∨ 1000 < c.length)) : Calls Tryd.prog 8 #[.string ⟨a.toArray⟩, .string ⟨b.toArray⟩, .string ⟨c.toArray⟩] w (GivesB true w) := by
  have Z := Below.refl w.heap.size w
  have hsa := size_of a
  have hsb := size_of b
  have hsc := size_of c
  have HSA := Lib.hid (fun W (h : Below w.heap.size w W) => sanity_any pk W (pk.on _ _ h ht))
  have z0 : ¬ (1000 : Int) < (a.length : Int) := by omega
  have z1 : ¬ (1000 : Int) < (b.length : Int) := by omega
  have z2 : ¬ (1000 : Int) < (c.length : Int) := by omega
  have HIX := Lib.hid (fun k h => index_at c k h)
  have HTA := Lib.hid (fun W (h : Below w.heap.size w W) => pkgRead pk a W (by omega) (pk.on _ _ h ht))
  have HTB := Lib.hid (fun W (h : Below w.heap.size w W) => pkgRead pk b W (by omega) (pk.on _ _ h ht))
  have HTC := Lib.hid (fun W (h : Below w.heap.size w W) => pkgRead pk (a ++ 10 :: 35 :: (c ++ 10 :: b)) W (by simp only [List.length_append, List.length_cons]; omega) (pk.on _ _ h ht))
  have hsh : ((((⟨a.toArray⟩ : ByteArray) ++ ⟨#[10, 35]⟩) ++ ⟨c.toArray⟩) ++ ⟨#[10]⟩) ++ ⟨b.toArray⟩ = ⟨(a ++ 10 :: 35 :: (c ++ 10 :: b)).toArray⟩ := by
    rw [show (⟨#[10, 35]⟩ : ByteArray) = ⟨[(10 : UInt8), 35].toArray⟩ from rfl, show (⟨#[10]⟩ : ByteArray) = ⟨[(10 : UInt8)].toArray⟩ from rfl, ba_app, ba_app, ba_app, ba_app]
    simp
  rw [← hsh] at HTC
  rw [read_short (by omega)] at HTA
  rw [read_short (by omega)] at HTB
  rw [read_short (by simp only [List.length_append, List.length_cons]; omega)] at HTC
  have HGT := Lib.hid (fun l m ha hb hc => gaps_toks (a := a) (b := b) (c := c) (l := l) (m := m) ha hb hc)
  have HLA := Lib.hid (fun l (h : toks 0 a = .ok l) => lie_texts l 0 a (toks_lie (a.length + 1) 0 a l (Nat.lt_succ_self _) h))
  have HLB := Lib.hid (fun l (h : toks 0 b = .ok l) => lie_texts l 0 b (toks_lie (b.length + 1) 0 b l (Nat.lt_succ_self _) h))
  have HEA := Lib.hid (fun p q => toks_err (a.length + 1) 0 a p q (Nat.lt_succ_self _))
  have HEB := Lib.hid (fun p q => toks_err (b.length + 1) 0 b p q (Nat.lt_succ_self _))
  have HPB := Lib.hid (fun l (h : toks 0 b = .ok l) => lie_pos l 0 b (toks_lie (b.length + 1) 0 b l (Nat.lt_succ_self _) h))
  generalize (⟨a.toArray⟩ : ByteArray) = XA at *
  generalize (⟨b.toArray⟩ : ByteArray) = XB at *
  generalize (⟨c.toArray⟩ : ByteArray) = XC at *
  generalize hra : toks 0 a = ra at *
  generalize hrb : toks 0 b = rb at *
  generalize toks 0 (a ++ 10 :: 35 :: (c ++ 10 :: b)) = rc at *
  clear hl ht hra hrb hsh
  go_enter Tryd.func8, Tryd.ntmps8
  go_wp2_with (first
    | (go_at_call 9; (with_reducible refine (HSA.out _ Z).mono ?_); rintro e w1 ⟨rfl, hb⟩; replace Z := Wire.bc Z hb; clear hb))
  go_loopw [8] (fun iv wr => ∃ (i : Nat), Hid (i ≤ c.length ∧ ∀ j x, j < i → c[j]? = some x → x ≠ 10) ∧ iv = .int .i64 (i : Int) ∧ wr = w1) (fun iv _ => ((c.length : Int) - intOf iv).toNat)
  case atStart => exact ⟨0, Lib.hid ⟨Nat.zero_le _, fun j x h => absurd h (Nat.not_lt_zero _)⟩, rfl, rfl⟩
  case round =>
    obtain ⟨i, HI, rfl, rfl⟩ := hrel
    by_cases hi : i < c.length
    · have y0 : (i : Int) < (c.length : Int) := by omega
      have ix := HIX.out i hi
      have HIL := Lib.hid hi
      have hci : c[i]? = some (hd (c.drop i)) := by rw [List.drop_eq_getElem_cons hi, List.getElem?_eq_getElem hi]; rfl
      generalize hd (c.drop i) = x at *
      by_cases hx : (x.toNat : Int) = 10
      · clear hi hci
        go_wp2
        go_ret
        exact ⟨rfl, Z⟩
      · have HN : Hid (∀ j y, j < i + 1 → c[j]? = some y → y ≠ 10) := Lib.hid (fun j y hj hy => by
          rcases Nat.lt_or_ge j i with h | h
          · exact HI.out.2 j y h hy
          · obtain rfl : j = i := by omega
            rw [hci] at hy
            cases hy
            exact fun e => hx (by rw [e]; rfl))
        clear hi hci
        go_wp2
        go_roundw
        case rel => exact ⟨i + 1, Lib.hid ⟨HIL.out, HN.out⟩, by go_num, (by first | trivial | rfl)⟩
        case measure => have := HIL.out; simp [intOf]; omega
    · have y0 : ¬ (i : Int) < (c.length : Int) := by omega
      have HNC : Hid (∀ x ∈ c, x ≠ 10) := Lib.hid (fun x hx => by
        obtain ⟨j, hj⟩ := List.getElem?_of_mem hx
        have := (List.getElem?_eq_some_iff.1 hj).1
        exact HI.out.2 j x (by omega) hj)
      clear hi
      cases ra with
      | bad p q =>
        have hq := HEA.out p q rfl
        have y1 : ¬ (q : Int) = 0 := by omega
        have y2 : ((q : Int) == 0) = false := by simpa using y1
        simp only [Res.at_, Res.err, Res.list] at HTA
        clear hq
        go_wp2_with (first
          | (go_at_call 10; (with_reducible refine (HTA.out _ Z).mono ?_); rintro e w2 ⟨A, n, k, rfl, ho, hb⟩; replace Z := Wire.bc Z hb; clear ho hb)
          | (go_at_call 10; (with_reducible refine (HTB.out _ Z).mono ?_); rintro e w3 ⟨B, n2, k2, rfl, ho, hb⟩; replace Z := Wire.bc Z hb; clear ho hb))
        go_ret
        exact ⟨rfl, Z⟩
      | ok l =>
        cases rb with
        | bad p q =>
          have hq := HEB.out p q rfl
          have y1 : ¬ (q : Int) = 0 := by omega
          have y2 : ((q : Int) == 0) = false := by simpa using y1
          simp only [Res.at_, Res.err, Res.list] at HTA HTB
          clear hq
          go_wp2_with (first
            | (go_at_call 10; (with_reducible refine (HTA.out _ Z).mono ?_); rintro e w2 ⟨A, n, k, rfl, ho, hb⟩; replace Z := Wire.bc Z hb; clear ho hb)
            | (go_at_call 10; (with_reducible refine (HTB.out _ Z).mono ?_); rintro e w3 ⟨B, n2, k2, rfl, ho, hb⟩; replace Z := Wire.bc Z hb; clear ho hb))
          go_ret
          exact ⟨rfl, Z⟩
        | ok m =>
          have hrc := HGT.out l m rfl rfl HNC.out
          subst hrc
          simp only [Res.at_, Res.err, Res.list] at HTA HTB HTC
          have hla := HLA.out l rfl
          have hlb := HLB.out m rfl
          have hpb := HPB.out m rfl
          obtain ⟨n1, hn1⟩ : ∃ n1, n1 = l.length := ⟨_, rfl⟩
          obtain ⟨n2, hn2⟩ : ∃ n2, n2 = m.length := ⟨_, rfl⟩
          have HA2 : Hid (∀ W, Below w.heap.size w W → Calls Tryd.prog 10 #[.string XA] W (fun e w' => ∃ A k, e = .returned (.tuple #[.slice A n1 k, .int .i64 0, .int .i64 0]) ∧ OwnK w' W.heap.size (.slice A n1 k) n1 (l.map Tok.ti) ∧ Below W.heap.size W w')) := Lib.hid (fun W h => (HTA.out W h).mono fun e w' ⟨A, n, c, he, ho, hb⟩ => by
            have e2 := ho.len
            rw [List.length_map, ← hn1] at e2
            subst e2
            exact ⟨A, c, he, ho, hb⟩)
          have HB2 : Hid (∀ W, Below w.heap.size w W → Calls Tryd.prog 10 #[.string XB] W (fun e w' => ∃ A k, e = .returned (.tuple #[.slice A n2 k, .int .i64 0, .int .i64 0]) ∧ OwnK w' W.heap.size (.slice A n2 k) n2 (m.map Tok.ti) ∧ Below W.heap.size W w')) := Lib.hid (fun W h => (HTB.out W h).mono fun e w' ⟨A, n, c, he, ho, hb⟩ => by
            have e2 := ho.len
            rw [List.length_map, ← hn2] at e2
            subst e2
            exact ⟨A, c, he, ho, hb⟩)
          have HC2 : Hid (∀ W, Below w.heap.size w W → Calls Tryd.prog 10 #[.string (XA ++ ⟨#[10, 35]⟩ ++ XC ++ ⟨#[10]⟩ ++ XB)] W (fun e w' => ∃ A k, e = .returned (.tuple #[.slice A (n1 + n2) k, .int .i64 0, .int .i64 0]) ∧ OwnK w' W.heap.size (.slice A (n1 + n2) k) (n1 + n2) ((l ++ m.map (Tok.move (a.length + c.length + 3))).map Tok.ti) ∧ Below W.heap.size W w')) := Lib.hid (fun W h => (HTC.out W h).mono fun e w' ⟨A, n, c, he, ho, hb⟩ => by
            have e2 := ho.len
            rw [List.length_map, List.length_append, List.length_map, ← hn1, ← hn2] at e2
            subst e2
            exact ⟨A, c, he, ho, hb⟩)
          have q1 : (n1 : Int) ≤ 1000 := by omega
          have q2 : (n2 : Int) ≤ 1000 := by omega
          have g1 : ¬ 9223372036854775807 < a.length + 2 := by omega
          have g2 : ¬ 9223372036854775807 < a.length + 2 + c.length := by omega
          have g3 : ¬ 9223372036854775807 < a.length + 2 + c.length + 1 := by omega
          have g4 : ¬ 9223372036854775807 < a.length + 2 + c.length + 1 + b.length := by omega
          have HN1 := Lib.hid hn1
          have HN2 := Lib.hid hn2
          have HPO := Lib.hid hpb
          clear hla hlb hpb hn1 hn2 HTA HTB HTC
          by_cases hm : 0 < n2
          · go_wp2_with (first
              | (go_at_call 10; (with_reducible refine (HA2.out _ Z).mono ?_); rintro e w2 ⟨A, ca, rfl, ho, hb⟩; have HS1 := Lib.hid Z.size; replace Z := Wire.bc Z hb; have O1 := Lib.hid ho; clear ho hb)
              | (go_at_call 10; (with_reducible refine (HB2.out _ Z).mono ?_); rintro e w3 ⟨B, cb, rfl, ho, hb⟩; have HS2 := Lib.hid Z.size; replace Z := Wire.bc Z hb; have O1b := Lib.hid O1.out; replace O1 := Lib.hid (O1.out.on hb); have O2 := Lib.hid ho; obtain ⟨g, rfl⟩ := own_some ho hm; clear ho hb)
              | (go_at_call 10; (with_reducible refine (HC2.out _ Z).mono ?_); rintro e w4 ⟨C, cc, rfl, ho, hb⟩; have HS3 := Lib.hid Z.size; replace Z := Wire.bc Z hb; replace O1 := Lib.hid (O1.out.on hb); have O2b := Lib.hid O2.out; replace O2 := Lib.hid (O2.out.on hb); have O3 := Lib.hid ho; obtain ⟨g3, rfl⟩ := own_some ho (Nat.lt_of_lt_of_le hm (Nat.le_add_left _ _)); clear ho hb))
            have hA2 := own_arr O2.out
            have hA3 := own_arr O3.out
            have hG : Gp w w4 (.slice A n1 ca) (.slice (some ⟨g3, 0, none⟩) (n1 + n2) cc) n1 (n1 + n2) (l.map Tok.ti) ((l ++ m.map (Tok.move (a.length + c.length + 3))).map Tok.ti) g n2 ((mv (a.length + c.length + 3) 0 m).map Tok.ti) :=
              ⟨Z, O1.out.more HS1.out, O3.out.more HS3.out, hA2.1, hA2.2.1, fun j hj => Nat.ne_of_lt (Nat.lt_of_lt_of_le (O1b.out.own.lt j hj).2 (O2b.out.own.lt g rfl).1), fun j hj => Nat.ne_of_gt (Nat.lt_of_lt_of_le (O2b.out.own.lt g rfl).2 (O3.out.own.lt j hj).1), Nat.le_trans HS2.out (O2b.out.own.lt g rfl).1⟩
            have y5 : n2 ≤ cb := hA2.2.2.2.1
            have y6 : cb ≤ 9223372036854775807 := by have := hA2.2.2.2.2; unfold maxLen at this; omega
            have y7 : n1 + n2 ≤ cc := hA3.2.2.2.1
            have y8 : cc ≤ 9223372036854775807 := by have := hA3.2.2.2.2; unfold maxLen at this; omega
            have Y6 := Lib.hid hA2.2.2.2.2
            clear hA2 hA3 O1 O1b O2 O2b O3 HS1 HS2 HS3 Z
            obtain ⟨D, hD⟩ : ∃ D, D = a.length + c.length + 3 := ⟨_, rfl⟩
            rw [← hD] at hG
            have HD := Lib.hid hD
            have q3 : (a.length : Int) ≤ 1000 := by omega
            have q4 : (c.length : Int) ≤ 1000 := by omega
            clear hD
            go_loopw [19] (fun iv W => ∃ (i : Nat), Hid (i ≤ n2) ∧ iv = .int .i64 (i : Int) ∧ Gp w W (.slice A n1 ca) (.slice (some ⟨g3, 0, none⟩) (n1 + n2) cc) n1 (n1 + n2) (l.map Tok.ti) ((l ++ m.map (Tok.move D)).map Tok.ti) g n2 ((mv D i m).map Tok.ti)) (fun iv _ => ((n2 : Int) - intOf iv).toNat)
            case atStart => exact ⟨0, Lib.hid (Nat.zero_le _), rfl, hG⟩
            case round =>
              clear hG
              obtain ⟨i, HI2, rfl, Y⟩ := hrel
              by_cases hi : i < n2
              · have y9 : (i : Int) < (n2 : Int) := by omega
                have y10 : (0 : Int) ≤ (i : Int) := by omega
                obtain ⟨t, htt⟩ : ∃ t, m[i]? = some t := ⟨_, List.getElem?_eq_getElem (by rw [← HN2.out]; exact hi)⟩
                have hmt : ((mv D i m).map Tok.ti)[i]? = some t.ti := by rw [List.getElem?_map, mv_at, htt]; rfl
                have hcf := Y.cell hmt hi
                have hc1 : _ = some (Value.int .i64 (t.pos : Int)) := hcf.1
                have hc2 := hcf.2
                have HNXT : Hid ((mv D (i + 1) m).map Tok.ti = ((mv D i m).map Tok.ti).set i ⟨t.ti.kind, t.ti.text, t.ti.n, wrap64 (t.ti.pos + ((a.length : Int) + 2 + (c.length : Int) + 1))⟩) := Lib.hid (by
                  have hp := HPO.out t (List.mem_of_getElem? htt)
                  have e : wrap64 (t.ti.pos + ((a.length : Int) + 2 + (c.length : Int) + 1)) = ((t.pos + D : Nat) : Int) := by
                    have e2 : t.ti.pos = (t.pos : Int) := rfl
                    have e3 := HD.out
                    rw [e2]
                    simp only [wrap64]
                    omega
                  rw [mv_next D i m t htt, List.map_set, e]
                  rfl)
                have HST := Lib.hid (fun p => Y.step (p := p) hmt hi)
                have HIL := Lib.hid hi
                clear hmt htt hcf hi
                go_wp2
                go_roundw
                case rel => exact ⟨i + 1, Lib.hid HIL.out, by go_num, by rw [HNXT.out]; exact HST.out _⟩
                case measure => have := HIL.out; simp [intOf]; omega
              · have y9 : ¬ (i : Int) < (n2 : Int) := by omega
                have hin : i = n2 := by have := HI2.out; omega
                rw [hin, show mv D n2 m = m.map (Tok.move D) by rw [HN2.out]; exact mv_all D m] at Y
                have HM1 : Hid (∀ W, Gp w W (.slice A n1 ca) (.slice (some ⟨g3, 0, none⟩) (n1 + n2) cc) n1 (n1 + n2) (l.map Tok.ti) ((l ++ m.map (Tok.move D)).map Tok.ti) g n2 ((m.map (Tok.move D)).map Tok.ti) → Calls Tryd.prog 12 #[.slice (some ⟨g3, 0, none⟩) n1 cc, .slice A n1 ca, .bool true] W (GivesB true W)) := Lib.hid (fun W h => by
                  obtain ⟨A', c', e1, l1⟩ := h.o1.form
                  obtain ⟨A3', c3', e3, l3⟩ := h.o3.form
                  cases e1
                  cases e3
                  have l4 := lies_take l3 (k := n1) (Nat.le_add_right _ _)
                  rw [List.map_append, List.take_left' (by rw [List.length_map, HN1.out])] at l4
                  have := refSameK_any (l.map Tok.ti) (l.map Tok.ti) n1 cc n1 ca (some ⟨g3, 0, none⟩) A true W l4 l1
                  rwa [sameK_refl] at this)
                have HM2 : Hid (∀ W, Gp w W (.slice A n1 ca) (.slice (some ⟨g3, 0, none⟩) (n1 + n2) cc) n1 (n1 + n2) (l.map Tok.ti) ((l ++ m.map (Tok.move D)).map Tok.ti) g n2 ((m.map (Tok.move D)).map Tok.ti) → Calls Tryd.prog 12 #[.slice (some ⟨g3, n1 * 4, none⟩) n2 (cc - n1), .slice (some ⟨g, 0, none⟩) n2 cb, .bool true] W (GivesB true W)) := Lib.hid (fun W h => by
                  obtain ⟨A3', c3', e3, l3⟩ := h.o3.form
                  cases e3
                  have l4 := lies_drop l3 (k := n1) (Nat.le_add_right _ _)
                  rw [List.map_append, List.drop_left' (by rw [List.length_map, HN1.out]), Nat.zero_add, Nat.add_sub_cancel_left] at l4
                  have l5 := arr_lies h.m (by rw [List.length_map, List.length_map, HN2.out]) y5 Y6.out h.lt
                  have := refSameK_any ((m.map (Tok.move D)).map Tok.ti) ((m.map (Tok.move D)).map Tok.ti) n2 (cc - n1) n2 cb (some ⟨g3, n1 * 4, none⟩) (some ⟨g, 0, none⟩) true W l4 l5
                  rwa [sameK_refl] at this)
                have y10 : (n1 : Int) ≤ (n1 : Int) + (n2 : Int) := by omega
                have y11 : (n1 : Int) + (n2 : Int) ≤ (cc : Int) := by omega
                have y12 : ¬ cc = n1 := by omega
                clear hi hin
                go_wp2_with (first
                  | (go_at_call 12; (with_reducible refine (HM1.out _ Y).mono ?_); rintro e w5 ⟨rfl, hb⟩; replace Y := Y.on hb; clear hb)
                  | (go_at_call 12; (with_reducible refine (HM2.out _ Y).mono ?_); rintro e w6 ⟨rfl, hb⟩; replace Y := Y.on hb; clear hb))
                go_ret
                exact ⟨rfl, Y.z⟩
          · have hn0 : n2 = 0 := by omega
            subst hn0
            have hm0 : m = [] := List.eq_nil_of_length_eq_zero HN2.out.symm
            subst hm0
            simp only [List.map_nil, List.append_nil, Nat.add_zero] at HB2 HC2
            go_wp2_with (first
              | (go_at_call 10; (with_reducible refine (HA2.out _ Z).mono ?_); rintro e w2 ⟨A, ca, rfl, ho, hb⟩; replace Z := Wire.bc Z hb; have O1 := Lib.hid ho; clear ho hb)
              | (go_at_call 10; (with_reducible refine (HB2.out _ Z).mono ?_); rintro e w3 ⟨B, cb, rfl, ho, hb⟩; replace Z := Wire.bc Z hb; replace O1 := Lib.hid (O1.out.on hb); have O2 := Lib.hid ho; clear ho hb)
              | (go_at_call 10; (with_reducible refine (HC2.out _ Z).mono ?_); rintro e w4 ⟨C, cc, rfl, ho, hb⟩; replace Z := Wire.bc Z hb; replace O1 := Lib.hid (O1.out.on hb); replace O2 := Lib.hid (O2.out.on hb); have O3 := Lib.hid ho; clear ho hb))
            obtain ⟨C', cc', e3, l3⟩ := O3.out.form
            cases e3
            obtain ⟨A', ca', e1, l1⟩ := O1.out.form
            cases e1
            obtain ⟨B', cb', e2, l2⟩ := O2.out.form
            cases e2
            have y7 : n1 ≤ cc := l3.le
            have y8 : cc ≤ 9223372036854775807 := by have := l3.most; unfold maxLen at this; omega
            have HM1 : Hid (∀ W, Below w4.heap.size w4 W → Calls Tryd.prog 12 #[.slice C n1 cc, .slice A n1 ca, .bool true] W (GivesB true W)) := Lib.hid (fun W h => by
              have := refSameK_any (l.map Tok.ti) (l.map Tok.ti) n1 cc n1 ca C A true W ((l3.below h).more h.size) ((l1.below h).more h.size)
              rwa [sameK_refl] at this)
            have HM2 : Hid (∀ W X k, Lies w4 w4.heap.size 4 X 0 k (cellsK []) → Below w4.heap.size w4 W → Calls Tryd.prog 12 #[.slice X 0 k, .slice B 0 cb, .bool true] W (GivesB true W)) := Lib.hid (fun W X k hx h => by
              have := refSameK_any [] [] 0 k 0 cb X B true W ((hx.below h).more h.size) ((l2.below h).more h.size)
              rwa [sameK_refl] at this)
            have L3 := Lib.hid l3
            clear l1 l2 l3 O1 O2 O3
            have Z2 := Below.refl w4.heap.size w4
            go_loopw [19] (fun iv W => iv = .int .i64 0 ∧ Below w4.heap.size w4 W) (fun _ _ => 0)
            case atStart => exact ⟨rfl, Z2⟩
            case round =>
              clear Z2
              obtain ⟨rfl, Z2⟩ := hrel
              cases C with
              | none => 
                have HX : Hid (Lies w4 w4.heap.size 4 none 0 (cc - n1) (cellsK [])) := Lib.hid (by
                  have h0 : cc = 0 := by
                    rcases Nat.eq_zero_or_pos cc with h | h
                    · exact h
                    · obtain ⟨_, _, e⟩ := L3.out.some_ h; cases e
                  exact ⟨rfl, Nat.zero_le _, by rw [h0, Nat.zero_sub]; exact Nat.zero_le _, fun h => by omega, fun h => absurd h (Nat.lt_irrefl 0)⟩)
                go_wp2_with (first
                  | (go_at_call 12; (with_reducible refine (HM1.out _ Z2).mono ?_); rintro e w5 ⟨rfl, hb⟩; replace Z2 := Wire.bc Z2 hb; clear hb)
                  | (go_at_call 12; (with_reducible refine (HM2.out _ _ _ HX.out Z2).mono ?_); rintro e w6 ⟨rfl, hb⟩; replace Z2 := Wire.bc Z2 hb; clear hb))
                go_ret
                exact ⟨rfl, Wire.bc Z Z2⟩
              | some ad =>
                by_cases hcn : cc = n1
                · subst hcn
                  have HX : Hid (Lies w4 w4.heap.size 4 (some ad) 0 0 (cellsK [])) := Lib.hid ⟨rfl, Nat.le_refl _, Nat.zero_le _, fun h => absurd h (Nat.lt_irrefl 0), fun h => absurd h (Nat.lt_irrefl 0)⟩
                  go_wp2_with (first
                    | (go_at_call 12; (with_reducible refine (HM1.out _ Z2).mono ?_); rintro e w5 ⟨rfl, hb⟩; replace Z2 := Wire.bc Z2 hb; clear hb)
                    | (go_at_call 12; (with_reducible refine (HM2.out _ _ _ HX.out Z2).mono ?_); rintro e w6 ⟨rfl, hb⟩; replace Z2 := Wire.bc Z2 hb; clear hb))
                  go_ret
                  exact ⟨rfl, Wire.bc Z Z2⟩
                · obtain ⟨b0, o0, rfl⟩ : ∃ b0 o0, ad = ⟨b0, o0, none⟩ := by
                    obtain ⟨b0, o0, e⟩ := L3.out.some_ (by omega)
                    cases e
                    exact ⟨b0, o0, rfl⟩
                  have HX : Hid (Lies w4 w4.heap.size 4 (some ⟨b0, o0 + n1 * 4, none⟩) 0 (cc - n1) (cellsK [])) := Lib.hid (by
                    have h := lies_drop L3.out (k := n1) (Nat.le_refl _)
                    rwa [Nat.sub_self, show (l.map Tok.ti).drop n1 = [] from List.drop_eq_nil_of_le (by rw [List.length_map, HN1.out]; exact Nat.le_refl _)] at h)
                  go_wp2_with (first
                    | (go_at_call 12; (with_reducible refine (HM1.out _ Z2).mono ?_); rintro e w5 ⟨rfl, hb⟩; replace Z2 := Wire.bc Z2 hb; clear hb)
                    | (go_at_call 12; (with_reducible refine (HM2.out _ _ _ HX.out Z2).mono ?_); rintro e w6 ⟨rfl, hb⟩; replace Z2 := Wire.bc Z2 hb; clear hb))
                  go_ret
                  exact ⟨rfl, Wire.bc Z Z2⟩
theorem law_gaps {T : World → Prop} (pk : Pkg T) (a b c : List UInt8) (w : World) (ht : T w) : Calls Tryd.prog 8 #[.string ⟨a.toArray⟩, .string ⟨b.toArray⟩, .string ⟨c.toArray⟩] w (GivesB true w) := by
  by_cases hl : 1000 < a.length ∨ 1000 < b.length ∨ 1000 < c.length
  · exact law_gaps_long pk a b c w ht hl
  · exact law_gaps_any pk a b c w ht hl
end Lx
end Go.Proofs.YtjijlepkcghmeaaDoor
