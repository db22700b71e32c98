/- Package lex: Tokens. Condition: the table of units is laid. -/
import Derived.Test.YtjijlepkcghmeaaDoorLxA9
import Derived.Test.YtjijlepkcghmeaaDoorLxP
namespace Go.Proofs.YtjijlepkcghmeaaDoor
open Go.RowKit
namespace Lx
open Wire (bv sv Lies)
open Hash (Arr)

/-- What stands in the loop: the tokens so far. -/
structure Tk (w W : World) (v : Value) (n : Nat) (l : List Tok) : Prop where
  own : OwnK W w.heap.size v n (l.map Tok.ti)
  z : Below w.heap.size w W
  u : Units W
theorem Tk.on {w W W' : World} {v : Value} {n : Nat} {l : List Tok} (h : Tk w W v n l) (hb : Below W.heap.size W W') : Tk w W' v n l :=
  ⟨h.own.on hb, Wire.bc h.z hb, h.u.on hb⟩
/-- Behind the append of a token: the tokens so far, and the token's own block. -/
theorem tok_keptP {w w1 w6 : World} {v v6 : Value} {n k nn i : Nat} {l : List Tok} {x : List UInt8} {T : TypeId} {o : Obj} (Y : Tk w w1 v n l) (hu : Units w) (ho : OwnK w6 w.heap.size v6 (n + 1) (l.map Tok.ti ++ [⟨(k : Int), x, (nn : Int), (i : Int)⟩]))
    (hb : Below w.heap.size ((w1.alloc (.cells #[.int .i64 (k : Int), .string ⟨x.toArray⟩, .int .i64 (nn : Int), .int .i64 (i : Int)] T)).alloc o) w6)
    (hg : ((w1.alloc (.cells #[.int .i64 (k : Int), .string ⟨x.toArray⟩, .int .i64 (nn : Int), .int .i64 (i : Int)] T)).alloc o).grownBy w6 v.ownBlock) :
    Tk w w6 v6 (n + 1) (l ++ [⟨k, x, nn, i⟩]) ∧ w6.cell? ⟨w1.heap.size, 1, none⟩ = some (.string ⟨x.toArray⟩) := by
  have hA := Hash.arr_new w1 #[.int .i64 (k : Int), .string ⟨x.toArray⟩, .int .i64 (nn : Int), .int .i64 (i : Int)] T
  have hlt : w1.heap.size < (w1.alloc (.cells #[.int .i64 (k : Int), .string ⟨x.toArray⟩, .int .i64 (nn : Int), .int .i64 (i : Int)] T)).heap.size := by rw [World.size_alloc]; exact Nat.lt_succ_self _
  have hA2 := hA.below (Wire.b1 _ o) hlt
  have b2 : Below w1.heap.size w1 ((w1.alloc (.cells #[.int .i64 (k : Int), .string ⟨x.toArray⟩, .int .i64 (nn : Int), .int .i64 (i : Int)] T)).alloc o) := Wire.bc (Wire.b1 _ _) (Wire.b1 _ _)
  have hlt2 := Nat.lt_of_lt_of_le hlt (Wire.b1 _ o).size
  have Y2 := Y.on b2
  have hne : ∀ j, some j = v.ownBlock → j < w1.heap.size := fun j hj => (Y.own.own.lt j hj.symm).2
  have hz := Y2.z.trans hb
  refine ⟨⟨by rw [List.map_append]; exact ho, hz, hu.on hz⟩, ?_⟩
  have hblk := hg.block w1.heap.size hlt2 (fun e => Nat.lt_irrefl _ (hne _ e))
  rw [World.cell?_of_block (a := ⟨w1.heap.size, 1, none⟩) hblk]
  exact hA2.cells 1 _ rfl
set_option maxRecDepth 100000 in
set_option maxHeartbeats 2000000 in
theorem tokens_long (t : List UInt8) (hl : 4000 < t.length) (w : World) :
    Calls Tryd.prog 10 #[.string ⟨t.toArray⟩] w (GivesTk (read t) w) := by
  have hs := size_of t
  unfold read
  rw [if_pos hl]
  have z0 : (4000 : Int) < (t.length : Int) := by omega
  generalize (⟨t.toArray⟩ : ByteArray) = T at *
  go_enter Tryd.func10, Tryd.ntmps10
  go_wp2
  go_ret3
  exact ⟨_, 0, rfl, ownK_nil _ _, Below.refl _ _⟩

set_option maxRecDepth 100000 in
set_option maxHeartbeats 4000000 in
theorem tokens_any (t : List UInt8) (hl : t.length ≤ 4000) (w : World) (hu : Units w) :
    Calls Tryd.prog 10 #[.string ⟨t.toArray⟩] w (GivesTk (toks 0 t) w) := by
  have hs := size_of t
  have hl2 : t.length ≤ 1048576 := Nat.le_trans hl (by decide)
  have HLN := Lib.hid hl
  have HU := Lib.hid hu
  have HSK : Hid (∀ i, i ≤ t.length → ∀ W, Calls Tryd.prog 17 #[.string ⟨t.toArray⟩, .int .i64 (i : Int)] W (GivesI (skipAt t i) W)) := Lib.hid (fun i hi W => skip_any t hl2 i hi W)
  have HS0 : Hid (∀ W, Calls Tryd.prog 17 #[.string ⟨t.toArray⟩, .int .i64 0] W (GivesI (skipAt t 0) W)) := Lib.hid (fun W => skip_any t hl2 0 (Nat.zero_le _) W)
  have HON : Hid (∀ i k m n, i < t.length → one (t.drop i) = some (k, m, n) → ¬ 1099511627776 < n → ∀ W, Units W → Calls Tryd.prog 18 #[.string ⟨t.toArray⟩, .int .i64 (i : Int)] W (fun e w' => e = .returned (.tuple #[.agg #[.int .i64 (k : Int), .string ⟨((t.drop i).take m).toArray⟩, .int .i64 (n : Int), .int .i64 (i : Int)], .int .i64 0]) ∧ Below W.heap.size W w')) := Lib.hid (fun i k m n hi h hn W hW => by
    have h2 := token_any t i hi hl2 W hW
    rw [show tokV t i = (tokv k ((t.drop i).take m) n i, 0) by unfold tokV; rw [h]; exact if_neg hn] at h2
    exact h2)
  have HBG : Hid (∀ i k m n, i < t.length → one (t.drop i) = some (k, m, n) → 1099511627776 < n → ∀ W, Units W → Calls Tryd.prog 18 #[.string ⟨t.toArray⟩, .int .i64 (i : Int)] W (fun e w' => e = .returned (.tuple #[.agg #[.int .i64 0, .string ⟨#[]⟩, .int .i64 0, .int .i64 0], .int .i64 2]) ∧ Below W.heap.size W w')) := Lib.hid (fun i k m n hi h hn W hW => by
    have h2 := token_any t i hi hl2 W hW
    rw [show tokV t i = (zeroT, 2) by unfold tokV; rw [h]; exact if_pos hn] at h2
    exact h2)
  have HNO : Hid (∀ i, i < t.length → one (t.drop i) = none → ∀ W, Units W → Calls Tryd.prog 18 #[.string ⟨t.toArray⟩, .int .i64 (i : Int)] W (fun e w' => e = .returned (.tuple #[.agg #[.int .i64 0, .string ⟨#[]⟩, .int .i64 0, .int .i64 0], .int .i64 3]) ∧ Below W.heap.size W w')) := Lib.hid (fun i hi h W hW => by
    have h2 := token_any t i hi hl2 W hW
    rw [show tokV t i = (zeroT, 3) by unfold tokV; rw [h]] at h2
    exact h2)
  have z0 : ¬ (4000 : Int) < (t.length : Int) := by omega
  have hsk0 := skipAt_drop t 0 (Nat.zero_le _)
  rw [List.drop_zero] at hsk0
  have HS0D : Hid (skipAt t 0 ≤ t.length ∧ skip false (t.drop (skipAt t 0)) = t.drop (skipAt t 0) ∧ toks 0 t = (toks (skipAt t 0) (t.drop (skipAt t 0))).after [] ∧ 0 ≤ skipAt t 0) := Lib.hid (by
    refine ⟨hsk0.2.2, by rw [hsk0.1, skip_skip], ?_, Nat.zero_le _⟩
    rw [after_nil, toks_skip 0 (s := t) (b := t.drop (skipAt t 0)) (by rw [hsk0.1, skip_skip]) (by rw [List.length_drop]; omega), List.length_drop]
    congr 1
    have := hsk0.2.2
    omega)
  generalize (⟨t.toArray⟩ : ByteArray) = T at *
  clear hl hl2 hsk0 hu
  have Y : Tk w w (.slice none 0 0) 0 [] := ⟨ownK_nil _ _, Below.refl _ _, HU.out⟩
  go_enter Tryd.func10, Tryd.ntmps10
  go_wp2_with (first
    | (go_at_call 17; (with_reducible refine (HS0.out _).mono ?_); rintro e w1 ⟨rfl, hb⟩; replace Y := Y.on hb; clear hb))
  go_loopw [5, 6] (fun ov iv wr => ∃ (i : Nat) (v : Value) (n : Nat) (l : List Tok), Hid (i ≤ t.length ∧ skip false (t.drop i) = t.drop i ∧ toks 0 t = (toks i (t.drop i)).after l ∧ n ≤ i) ∧ v = ov ∧ iv = .int .i64 (i : Int) ∧ Tk w wr v n l) (fun _ iv _ => ((t.length : Int) - intOf iv).toNat)
  case atStart => exact ⟨skipAt t 0, _, 0, [], HS0D, rfl, rfl, Y⟩
  case round =>
    clear Y HS0 HS0D
    obtain ⟨i, v, n, l, HT, rfl, rfl, Y⟩ := hrel
    by_cases hi : i < t.length
    · have z1 : (i : Int) < (t.length : Int) := by omega
      have HIL := Lib.hid hi
      cases h1 : one (t.drop i) with
      | none =>
        have HO := Lib.hid (HNO.out i hi h1)
        have HR : Hid (toks 0 t = .bad i 3) := Lib.hid (by
          rw [HT.out.2.2.1, toks_eq, HT.out.2.1, if_neg (by intro e; have := congrArg List.length e; rw [List.length_drop, List.length_nil] at this; omega), h1, Nat.sub_self]
          rfl)
        clear hi h1
        go_wp2_with (first
          | (go_at_call 18; (with_reducible refine (HO.out _ Y.u).mono ?_); rintro e w1 ⟨rfl, hb⟩; replace Y := Y.on hb; clear hb))
        go_ret3
        exact ⟨.slice none 0 0, 0, by rw [HR.out]; rfl, by rw [HR.out]; exact ownK_nil _ _, Wire.bc Y.z (Wire.b1 _ _)⟩
      | some p =>
        obtain ⟨k, m, nn⟩ := p
        have hm := one_len h1
        have hne : ¬ t.drop i = [] := by intro e; have := congrArg List.length e; rw [List.length_drop, List.length_nil] at this; omega
        have HEQ : Hid (toks 0 t = (if 1099511627776 < nn then Res.bad i 2 else (toks (i + m) (t.drop (i + m))).cons ⟨k, (t.drop i).take m, nn, i⟩).after l) := Lib.hid (by
          rw [HT.out.2.2.1, toks_eq, HT.out.2.1, if_neg hne, h1, Nat.sub_self, Nat.add_zero]
          simp only []
          rw [List.drop_drop])
        rw [List.length_drop] at hm
        have HM := Lib.hid hm
        by_cases hbig : 1099511627776 < nn
        · have HO := Lib.hid (HBG.out i k m nn hi h1 hbig)
          have HR : Hid (toks 0 t = .bad i 2) := Lib.hid (by rw [HEQ.out, if_pos hbig]; rfl)
          clear hi h1 hm hne hbig
          go_wp2_with (first
            | (go_at_call 18; (with_reducible refine (HO.out _ Y.u).mono ?_); rintro e w1 ⟨rfl, hb⟩; replace Y := Y.on hb; clear hb))
          go_ret3
          exact ⟨.slice none 0 0, 0, by rw [HR.out]; rfl, by rw [HR.out]; exact ownK_nil _ _, Wire.bc Y.z (Wire.b1 _ _)⟩
        · have HO := Lib.hid (HON.out i k m nn hi h1 hbig)
          have htl : ((t.drop i).take m).length = m := by rw [List.length_take, List.length_drop]; omega
          obtain ⟨x, hx⟩ : ∃ x, x = (t.drop i).take m := ⟨_, rfl⟩
          rw [← hx] at htl HO HEQ
          have hxs := size_of x
          rw [htl] at hxs
          have HSM : Hid (∀ W, Calls Tryd.prog 17 #[.string T, .int .i64 ((i : Int) + (m : Int))] W (GivesI (skipAt t (i + m)) W)) := Lib.hid (fun W => by rw [← Int.natCast_add]; exact HSK.out (i + m) (by omega) W)
          have HI2 : Hid (skipAt t (i + m) ≤ t.length ∧ skip false (t.drop (skipAt t (i + m))) = t.drop (skipAt t (i + m)) ∧ toks 0 t = (toks (skipAt t (i + m)) (t.drop (skipAt t (i + m)))).after (l ++ [⟨k, x, nn, i⟩]) ∧ n + 1 ≤ skipAt t (i + m) ∧ i < skipAt t (i + m)) := Lib.hid (by
            have hsk := skipAt_drop t (i + m) (by omega)
            have hn := HT.out.2.2.2
            refine ⟨hsk.2.2, by rw [hsk.1, skip_skip], ?_, by omega, by omega⟩
            rw [HEQ.out, if_neg hbig, after_cons, toks_skip (i + m) (s := t.drop (i + m)) (b := t.drop (skipAt t (i + m))) (by rw [hsk.1, skip_skip]) (by rw [List.length_drop, List.length_drop]; omega), List.length_drop, List.length_drop]
            rw [show i + m + (t.length - (i + m) - (t.length - skipAt t (i + m))) = skipAt t (i + m) by omega])
          have HNL : Hid (n ≤ 1099511627776) := Lib.hid (by have := HT.out.2.2.2; omega)
          have z3 : (m : Int) ≤ 1048576 := by have := HLN.out; omega
          have z4 : (i : Int) ≤ 1048576 := by have := HLN.out; omega
          clear hi h1 hm hne htl hx hbig
          go_wp2_with (first
            | (go_at_call 18; (with_reducible refine (HO.out _ Y.u).mono ?_); rintro e w1 ⟨rfl, hb⟩; replace Y := Y.on hb; clear hb)
            | (at_builtin; refine append_k rfl _ _ rfl w.heap.size v n (l.map Tok.ti) rfl (Y.own.on (Wire.bc (Wire.b1 _ _) (Wire.b1 _ _))) (w1.heap.size + 1) rfl ⟨(k : Int), x, (nn : Int), (i : Int)⟩ (lit_k _ _ _ _) HNL.out (Nat.le_trans Y.z.size (Wire.bc (Wire.b1 _ _) (Wire.b1 _ _)).size) ?_; intro v6 w6 ho6 hb6 hg6; have hc6 := tok_keptP Y HU.out ho6 hb6 hg6; refine gen_world (Pq := fun W => Tk w W v6 (n + 1) (l ++ [⟨k, x, nn, i⟩]) ∧ W.cell? ⟨w1.heap.size, 1, none⟩ = some (.string ⟨x.toArray⟩)) (G := fun W => wpList _ _ _ _ _ W) hc6 ?_; clear Y ho6 hb6 hg6 hc6; intro w7 Y; have hcell := Y.2)
            | (go_at_call 17; (with_reducible refine (HSM.out _).mono ?_); rintro e w8 ⟨rfl, hb⟩; have Y8 := Y.1.on hb))
          go_roundw
          case rel => exact ⟨skipAt t (i + m), _, n + 1, _, Lib.hid ⟨HI2.out.1, HI2.out.2.1, HI2.out.2.2.1, HI2.out.2.2.2.1⟩, rfl, rfl, Y8⟩
          case measure => have := HI2.out.2.2.2.2; have := HIL.out; simp [intOf]; omega
    · have z1 : ¬ (i : Int) < (t.length : Int) := by omega
      have HR : Hid (toks 0 t = .ok l) := Lib.hid (by
        have e : t.drop i = [] := List.drop_eq_nil_of_le (by omega)
        rw [HT.out.2.2.1, e, toks_gap i rfl]
        show Res.ok _ = _
        rw [List.append_nil])
      clear hi
      go_wp2
      go_ret3
      exact ⟨v, n, by rw [HR.out]; rfl, by rw [HR.out]; exact Y.own, Y.z⟩
end Lx
end Go.Proofs.YtjijlepkcghmeaaDoor
