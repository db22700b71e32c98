/- Package lex: number, walked. Condition: the text is of at most 2^20 bytes; the table of units is laid. -/
import Derived.Test.YtjijlepkcghmeaaDoorLxA7
namespace Go.Proofs.YtjijlepkcghmeaaDoor
open Go.RowKit
namespace Lx
open Wire (bv sv)
open Hash (Arr)

theorem run_store_i (w : World) (g : Nat) (n : Int) (u : Value) (h0 : w.cell? ⟨g, 0, none⟩ = some u) (hf : w.frozen? ⟨g, 0, none⟩ = false) : (Instr.storeAt 3 (.pointer (some ⟨g, 0, none⟩)) (.int .i64 n)).run Tryd.prog w = .ok () (w.setCell ⟨g, 0, none⟩ (.int .i64 n)) := by
  go_simp
theorem store_i {ops : Array Oper} {rest : List Oper} {o : Oper} {a : Act} {w : World} {Q : Exit → Act → World → Prop} (x y : Operand) (ho : o.op = .store 3 x y) (hgd : o.guard = none) (g : Nat) (hx : a.eval x = .pointer (some ⟨g, 0, none⟩)) (n : Int) (hy : a.eval y = .int .i64 n) (u : Value) (h0 : w.cell? ⟨g, 0, none⟩ = some u) (hf : w.frozen? ⟨g, 0, none⟩ = false)
    (h : wpList Tryd.prog ops Q rest (a.put o.dst undef) (w.setCells g 0 [.int .i64 n])) : wpList Tryd.prog ops Q (o :: rest) a w :=
  wpList_plain hgd fun _ hK => by
    unfold Oper.wp execOp
    simp only [ho, hx, hy, Sem.run_bind, run_store_i w g n u h0 hf, Result.andThen_ok, Sem.run_pure]
    exact hK _ _ h

theorem Nu.drew {w W : World} {T x : ByteArray} {v : Value} {k n i : Int} (h : Nu w T v k x n i W) : Nu w T v k x n i W.drew :=
  ⟨h.tx, h.r.keep (fun _ => rfl) (fun _ => rfl), h.c.keep (fun _ => rfl) (fun _ => rfl), h.z.drew, fun j u hu => h.u j u hu⟩
/-- What number answers, by its parts: z: zeros ahead; V: the value of the digits; u: the unit's seconds; p0, p1: a part of a word stands behind the digits, behind the unit. -/
def numX (z : Bool) (V u : Nat) (p0 p1 : Bool) (v0 v1 : Value) : Value × Nat :=
  if z = true then (zeroT, 3)
  else if 0 < u then (if p1 = true then (zeroT, 3) else if 1099511627776 < V * u then (zeroT, 2) else (v1, 0))
  else (if p0 = true then (zeroT, 3) else if 1099511627776 < V then (zeroT, 2) else (v0, 0))
theorem numV_eq (t : List UInt8) (i : Nat) : numV t i = numX (decide (1 < dlen (t.drop i)) && decide (hd (t.drop i) = 48)) (val 0 (t.drop i)) (unit (hd (t.drop (i + dlen (t.drop i))))) (isW (hd (t.drop (i + dlen (t.drop i))))) (isW (hd (t.drop (i + (dlen (t.drop i) + 1)))))
    (tokv 2 ((t.drop i).take (dlen (t.drop i))) (val 0 (t.drop i)) i) (tokv 2 ((t.drop i).take (dlen (t.drop i) + 1)) (val 0 (t.drop i) * unit (hd (t.drop (i + dlen (t.drop i))))) i) := by
  rw [← List.drop_drop, ← List.drop_drop]
  unfold numX
  by_cases h : 1 < dlen (t.drop i) ∧ hd (t.drop i) = 48
  · rw [numV_zero h, if_pos (by simp [h.1, h.2])]
  · rw [if_neg (by simpa using h)]
    by_cases hu : 0 < unit (hd ((t.drop i).drop (dlen (t.drop i))))
    · rw [if_pos hu]
      by_cases hp : isW (hd ((t.drop i).drop (dlen (t.drop i) + 1))) = true
      · rw [if_pos hp, numV_ubad h hu hp]
      · rw [if_neg hp]
        by_cases hb : 1099511627776 < val 0 (t.drop i) * unit (hd ((t.drop i).drop (dlen (t.drop i))))
        · rw [if_pos hb, numV_ubig h hu hp hb]
        · rw [if_neg hb, numV_uok h hu hp hb]
    · rw [if_neg hu]
      by_cases hp : isW (hd ((t.drop i).drop (dlen (t.drop i)))) = true
      · rw [if_pos hp, numV_bad h hu hp]
      · rw [if_neg hp]
        by_cases hb : 1099511627776 < val 0 (t.drop i)
        · rw [if_pos hb, numV_big h hu hp hb]
        · rw [if_neg hb, numV_ok h hu hp hb]

set_option maxRecDepth 100000 in
set_option maxHeartbeats 8000000 in
theorem number_any (t : List UInt8) (i : Nat) (hi : i < t.length) (hl : t.length ≤ 1048576) (w : World) (hu : Units w) :
    Calls Tryd.prog 30 #[.string ⟨t.toArray⟩, .int .i64 (i : Int)] w (GivesT2 (numV t i) w) := by
  have HR := Lib.hid (runNumber_any t hl i (Nat.le_of_lt hi) w hu)
  have HU := Lib.hid hu
  have hs := size_of t
  have hdl := dlen_le (t.drop i)
  rw [List.length_drop] at hdl
  have hvc : val 0 (t.drop i) ≤ 1099511627777 := val_cap (t.drop i) 0 (Nat.zero_le _)
  have hul := unit_le (hd (t.drop (i + dlen (t.drop i))))
  have hud : 0 < unit (hd (t.drop (i + dlen (t.drop i)))) → i + dlen (t.drop i) < t.length := fun h => hd_drop (fun e => unit_ne h (by rw [e]))
  have ix := index_at t i hi
  have h48 : hd (t.drop i) = 48 ↔ ((hd (t.drop i)).toNat : Int) = 48 := (nat_of (d := 48)).symm
  have HX0 := Lib.hid (ext_take t i (dlen (t.drop i)))
  have HX1 := Lib.hid (ext_take t i (dlen (t.drop i) + 1))
  have HS : Hid (∀ W, Units W → Calls Tryd.prog 48 #[.string ((⟨t.toArray⟩ : ByteArray).extract (i + dlen (t.drop i)) t.length)] W (fun e w' => e = .returned (.int .i64 (unit (hd (t.drop (i + dlen (t.drop i)))) : Int)) ∧ Below W.heap.size W w')) :=
    Lib.hid (fun W h => by
      have e := ext_take t (i + dlen (t.drop i)) (t.length - (i + dlen (t.drop i)))
      rw [show i + dlen (t.drop i) + (t.length - (i + dlen (t.drop i))) = t.length by omega] at e
      rw [e, List.take_of_length_le (by rw [List.length_drop]; exact Nat.le_refl _)]
      exact seconds_any (t.drop (i + dlen (t.drop i))) (by rw [List.length_drop]; omega) W h)
  have HP0 : Hid (∀ W, Calls Tryd.prog 46 #[.string ⟨t.toArray⟩, .int .i64 ((i : Int) + (dlen (t.drop i) : Int))] W (Is (.bool (isW (hd (t.drop (i + dlen (t.drop i)))))) W)) :=
    Lib.hid (fun W => isPart_any t (i + dlen (t.drop i)) W)
  have HP1 : Hid (∀ W, Calls Tryd.prog 46 #[.string ⟨t.toArray⟩, .int .i64 ((i : Int) + (dlen (t.drop i) : Int) + 1)] W (Is (.bool (isW (hd (t.drop (i + (dlen (t.drop i) + 1)))))) W)) :=
    Lib.hid (fun W => isPart_any t (i + (dlen (t.drop i) + 1)) W)
  rw [numV_eq]
  obtain ⟨x0, hx0⟩ : ∃ x, x = (t.drop i).take (dlen (t.drop i)) := ⟨_, rfl⟩
  obtain ⟨x1, hx1⟩ : ∃ x, x = (t.drop i).take (dlen (t.drop i) + 1) := ⟨_, rfl⟩
  rw [← hx0] at HX0 ⊢
  rw [← hx1] at HX1 ⊢
  clear hx0 hx1 hu
  have hdec : (decide (1 < dlen (t.drop i)) && decide (hd (t.drop i) = 48)) = (decide (1 < dlen (t.drop i)) && decide (((hd (t.drop i)).toNat : Int) = 48)) := by simp only [h48]
  rw [hdec]
  clear hdec h48
  generalize ((hd (t.drop i)).toNat : Int) = x at *
  generalize isW (hd (t.drop (i + dlen (t.drop i)))) = p0 at *
  generalize isW (hd (t.drop (i + (dlen (t.drop i) + 1)))) = p1 at *
  generalize unit (hd (t.drop (i + dlen (t.drop i)))) = u at *
  generalize val 0 (t.drop i) = V at *
  generalize dlen (t.drop i) = d at *
  generalize t.length = L at *
  generalize (⟨t.toArray⟩ : ByteArray) = T at *
  obtain ⟨P, hP⟩ : ∃ P : Nat, P = V * u := ⟨_, rfl⟩
  have hPl : P ≤ 94997804639932800 := by rw [hP]; exact Nat.le_trans (Nat.mul_le_mul hvc hul) (by decide)
  have hmul : (V : Int) * (u : Int) = (P : Int) := by rw [hP]; exact (Int.natCast_mul _ _).symm
  rw [← hP]
  have z0 : (i : Int) ≤ (L : Int) := by omega
  have z1 : (i : Int) + (d : Int) ≤ (L : Int) := by omega
  have hQ : ∀ (R : Value × Nat), GivesT2 R w = GivesT2 R w := fun _ => rfl
  obtain ⟨R, hR⟩ : ∃ R, R = numX (decide (1 < d) && decide (x = 48)) V u p0 p1 (tokv 2 x0 V i) (tokv 2 x1 P i) := ⟨_, rfl⟩
  unfold numX at hR
  rw [← hP] at hR
  rw [show numX (decide (1 < d) && decide (x = 48)) V u p0 p1 (tokv 2 x0 V i) (tokv 2 x1 P i) = R by rw [hR, hP]; rfl]
  have HV : Hid ((V : Int) ≤ 1099511627777) := Lib.hid (by omega)
  clear hP hQ hul hvc
  by_cases hz : (1 < d ∧ x = 48)
  · obtain ⟨z2, rfl⟩ := hz
    have z3 : (i : Int) + 1 < (i : Int) + (d : Int) := by omega
    have HRz : Hid (R = (zeroT, 3)) := Lib.hid (by rw [hR]; simp [z2])
    clear hR HX0 HX1
    by_cases hu0 : u = 0
    · subst hu0
      have HS : Hid (∀ W, Units W → Calls Tryd.prog 48 #[.string (T.extract (i + d) L)] W (fun e w' => e = .returned (.int .i64 0) ∧ Below W.heap.size W w')) := HS
      go_enter Tryd.func30, Tryd.ntmps30
      go_wp2_with (first
        | (go_at_call 24; (with_reducible refine HR.out.mono ?_); rintro e w1 ⟨rfl, Y⟩; have h0 := Y.tx; obtain ⟨h1, f1⟩ := Y.c.at_ (i := 0) rfl)
        | (go_at_call 48; (with_reducible refine (HS.out _ Y.u).mono ?_); rintro e w2 ⟨rfl, hb⟩; replace Y := Y.on hb; clear h0 h1 f1 hb; have h0 := Y.tx; obtain ⟨h1, f1⟩ := Y.c.at_ (i := 0) rfl)
        | (refine store_i (.tmp 6) (.tmp 32) rfl rfl (w.heap.size + 1 + 1) rfl _ rfl _ h1 f1 ?_; refine genW (Pq := fun W => Nu w T (.int .i64 (P : Int)) 0 ⟨#[]⟩ 0 0 W) (G := fun W => wpList _ _ _ _ _ W) (Y.putC HU.out _) ?_; clear Y h0 h1 f1; intro w3 Y; have h0 := Y.tx; obtain ⟨h1, f1⟩ := Y.c.at_ (i := 0) rfl)
        | (go_at_call 46; (with_reducible refine (HP0.out _).mono ?_); rintro e w4 ⟨rfl, rfl⟩)
        | (go_at_call 46; (with_reducible refine (HP1.out _).mono ?_); rintro e w4 ⟨rfl, rfl⟩)
        | (refine store_k (.tmp 4) (.tmp 42) rfl rfl (w.heap.size + 1) rfl 0 0 0 _ rfl Y.r.there ?_; replace Y := Y.putR HU.out 0 0 0 ⟨#[]⟩)
        | (refine store_k (.tmp 4) (.tmp 46) rfl rfl (w.heap.size + 1) rfl 0 0 0 _ rfl Y.r.there ?_; replace Y := Y.putR HU.out 0 0 0 ⟨#[]⟩)
        | (refine store_k (.tmp 4) (.tmp 53) rfl rfl (w.heap.size + 1) rfl 2 _ i _ rfl Y.r.there ?_; replace Y := Y.putR HU.out 2 _ i _))
      rw [HRz.out]
      refine bodyPost_ret (v := .tuple #[zeroT, .int .i64 3]) ?_ rfl ⟨rfl, Y.z⟩
      simp [results, Tryd.results30, asAddr]
      rw [load_k Y.r]
      rfl
    · have z4 : ¬ (u : Int) = 0 := by omega
      go_enter Tryd.func30, Tryd.ntmps30
      go_wp2_with (first
        | (go_at_call 24; (with_reducible refine HR.out.mono ?_); rintro e w1 ⟨rfl, Y⟩; have h0 := Y.tx; obtain ⟨h1, f1⟩ := Y.c.at_ (i := 0) rfl)
        | (go_at_call 48; (with_reducible refine (HS.out _ Y.u).mono ?_); rintro e w2 ⟨rfl, hb⟩; replace Y := Y.on hb; clear h0 h1 f1 hb; have h0 := Y.tx; obtain ⟨h1, f1⟩ := Y.c.at_ (i := 0) rfl)
        | (refine store_i (.tmp 6) (.tmp 32) rfl rfl (w.heap.size + 1 + 1) rfl _ rfl _ h1 f1 ?_; refine genW (Pq := fun W => Nu w T (.int .i64 (P : Int)) 0 ⟨#[]⟩ 0 0 W) (G := fun W => wpList _ _ _ _ _ W) (Y.putC HU.out _) ?_; clear Y h0 h1 f1; intro w3 Y; have h0 := Y.tx; obtain ⟨h1, f1⟩ := Y.c.at_ (i := 0) rfl)
        | (go_at_call 46; (with_reducible refine (HP0.out _).mono ?_); rintro e w4 ⟨rfl, rfl⟩)
        | (go_at_call 46; (with_reducible refine (HP1.out _).mono ?_); rintro e w4 ⟨rfl, rfl⟩)
        | (refine store_k (.tmp 4) (.tmp 42) rfl rfl (w.heap.size + 1) rfl 0 0 0 _ rfl Y.r.there ?_; replace Y := Y.putR HU.out 0 0 0 ⟨#[]⟩)
        | (refine store_k (.tmp 4) (.tmp 46) rfl rfl (w.heap.size + 1) rfl 0 0 0 _ rfl Y.r.there ?_; replace Y := Y.putR HU.out 0 0 0 ⟨#[]⟩)
        | (refine store_k (.tmp 4) (.tmp 53) rfl rfl (w.heap.size + 1) rfl 2 _ i _ rfl Y.r.there ?_; replace Y := Y.putR HU.out 2 _ i _))
      rw [HRz.out]
      refine bodyPost_ret (v := .tuple #[zeroT, .int .i64 3]) ?_ rfl ⟨rfl, Y.z⟩
      simp [results, Tryd.results30, asAddr]
      rw [load_k Y.r]
      rfl
  · have hzd : (decide (1 < d) && decide (x = 48)) = false := by simpa using hz
    rw [hzd] at hR
    have hz2 : (x = 48 ∧ ¬ (i : Int) + 1 < (i : Int) + (d : Int)) ∨ (x == 48) = false := by
      by_cases h : x = 48
      · exact .inl ⟨h, fun h2 => hz ⟨by omega, h⟩⟩
      · exact .inr (by simpa using h)
    clear hz hzd
    rw [if_neg (by decide)] at hR
    have HZ := Lib.hid hz2
    clear hz2
    by_cases hu0 : u = 0
    · subst hu0
      have HS : Hid (∀ W, Units W → Calls Tryd.prog 48 #[.string (T.extract (i + d) L)] W (fun e w' => e = .returned (.int .i64 0) ∧ Below W.heap.size W w')) := HS
      rw [if_neg (Nat.lt_irrefl 0)] at hR
      clear hud HX1 hmul HP1
      cases p0
      · rw [if_neg (by decide)] at hR
        by_cases hb : 1099511627776 < V
        · rw [if_pos hb] at hR
          have z5 : 1099511627776 < (V : Int) := by omega
          have HRz := Lib.hid hR
          clear hR HX0 hb
          rcases HZ.out with ⟨rfl, z3⟩ | z3
          all_goals
            go_enter Tryd.func30, Tryd.ntmps30
            go_wp2_with (first
              | (go_at_call 24; (with_reducible refine HR.out.mono ?_); rintro e w1 ⟨rfl, Y⟩; have h0 := Y.tx; obtain ⟨h1, f1⟩ := Y.c.at_ (i := 0) rfl)
              | (go_at_call 48; (with_reducible refine (HS.out _ Y.u).mono ?_); rintro e w2 ⟨rfl, hb⟩; replace Y := Y.on hb; clear h0 h1 f1 hb; have h0 := Y.tx; obtain ⟨h1, f1⟩ := Y.c.at_ (i := 0) rfl)
              | (refine store_i (.tmp 6) (.tmp 32) rfl rfl (w.heap.size + 1 + 1) rfl _ rfl _ h1 f1 ?_; refine genW (Pq := fun W => Nu w T (.int .i64 (P : Int)) 0 ⟨#[]⟩ 0 0 W) (G := fun W => wpList _ _ _ _ _ W) (Y.putC HU.out _) ?_; clear Y h0 h1 f1; intro w3 Y; have h0 := Y.tx; obtain ⟨h1, f1⟩ := Y.c.at_ (i := 0) rfl)
              | (go_at_call 46; (with_reducible refine (HP0.out _).mono ?_); rintro e w4 ⟨rfl, rfl⟩)
              | (go_at_call 46; (with_reducible refine (HP1.out _).mono ?_); rintro e w4 ⟨rfl, rfl⟩)
              | (refine store_k (.tmp 4) (.tmp 42) rfl rfl (w.heap.size + 1) rfl 0 0 0 _ rfl Y.r.there ?_; replace Y := Y.putR HU.out 0 0 0 ⟨#[]⟩)
              | (refine store_k (.tmp 4) (.tmp 46) rfl rfl (w.heap.size + 1) rfl 0 0 0 _ rfl Y.r.there ?_; replace Y := Y.putR HU.out 0 0 0 ⟨#[]⟩)
              | (refine store_k (.tmp 4) (.tmp 53) rfl rfl (w.heap.size + 1) rfl 2 _ i _ rfl Y.r.there ?_; replace Y := Y.putR HU.out 2 _ i _))
            rw [HRz.out]
            refine bodyPost_ret (v := .tuple #[zeroT, .int .i64 2]) ?_ rfl ⟨rfl, Y.z⟩
            simp [results, Tryd.results30, asAddr]
            rw [load_k Y.r]
            rfl
        · rw [if_neg hb] at hR
          have z5 : ¬ 1099511627776 < (V : Int) := by omega
          have HRz := Lib.hid hR
          clear hR hb
          rcases HZ.out with ⟨rfl, z3⟩ | z3
          all_goals
            have hT1 : ((i : Int) + (d : Int)).toNat = i + d := by omega
            have hT2 : ((i : Int) + (d : Int) + 1).toNat = i + (d + 1) := by omega
            go_enter Tryd.func30, Tryd.ntmps30
            go_wp2_with (first
              | (go_at_call 24; (with_reducible refine HR.out.mono ?_); rintro e w1 ⟨rfl, Y⟩; have h0 := Y.tx; obtain ⟨h1, f1⟩ := Y.c.at_ (i := 0) rfl)
              | (go_at_call 48; (with_reducible refine (HS.out _ Y.u).mono ?_); rintro e w2 ⟨rfl, hb⟩; replace Y := Y.on hb; clear h0 h1 f1 hb; have h0 := Y.tx; obtain ⟨h1, f1⟩ := Y.c.at_ (i := 0) rfl)
              | (refine store_i (.tmp 6) (.tmp 32) rfl rfl (w.heap.size + 1 + 1) rfl _ rfl _ h1 f1 ?_; refine genW (Pq := fun W => Nu w T (.int .i64 (P : Int)) 0 ⟨#[]⟩ 0 0 W) (G := fun W => wpList _ _ _ _ _ W) (Y.putC HU.out _) ?_; clear Y h0 h1 f1; intro w3 Y; have h0 := Y.tx; obtain ⟨h1, f1⟩ := Y.c.at_ (i := 0) rfl)
              | (go_at_call 46; (with_reducible refine (HP0.out _).mono ?_); rintro e w4 ⟨rfl, rfl⟩)
              | (go_at_call 46; (with_reducible refine (HP1.out _).mono ?_); rintro e w4 ⟨rfl, rfl⟩)
              | (refine store_k (.tmp 4) (.tmp 42) rfl rfl (w.heap.size + 1) rfl 0 0 0 _ rfl Y.r.there ?_; replace Y := Y.putR HU.out 0 0 0 ⟨#[]⟩)
              | (refine store_k (.tmp 4) (.tmp 46) rfl rfl (w.heap.size + 1) rfl 0 0 0 _ rfl Y.r.there ?_; replace Y := Y.putR HU.out 0 0 0 ⟨#[]⟩)
              | (refine store_k (.tmp 4) (.tmp 53) rfl rfl (w.heap.size + 1) rfl 2 _ i _ rfl Y.r.there ?_; replace Y := Y.putR HU.out 2 _ i _))
            have CT : Hid (∀ W, Nu w T (.int .i64 (V : Int)) 0 ⟨#[]⟩ 0 0 W → W.cell? ⟨w.heap.size, 0, none⟩ = some (.string T)) := Lib.hid (fun W h => h.tx)
            have CN : Hid (∀ W, Nu w T (.int .i64 (V : Int)) 0 ⟨#[]⟩ 0 0 W → W.cell? ⟨w.heap.size + 1 + 1, 0, none⟩ = some (.int .i64 (V : Int))) := Lib.hid (fun W h => (h.c.at_ (i := 0) rfl).1)
            refine QTail.region (C := fun W => Nu w T (.int .i64 (V : Int)) 0 ⟨#[]⟩ 0 0 W) 7 (by kernel_rfl) (by kernel_rfl) Y.drew ?_
            (refine wpQuiet_step (fun K hK => ?_); go_simp; refine ⟨(.string T), fun W hW => ?_, hK _ ?_⟩; (first | (rw [CT.out W hW]; exact ⟨rfl, rfl⟩) | (rw [CT.out W hW]; rfl)); clear hK K)
            (refine wpQuiet_step (fun K hK => ?_); go_simp; (first | refine hK _ ?_ | refine ⟨_, fun _ _ => rfl, hK _ ?_⟩); clear hK K)
            (refine wpQuiet_step (fun K hK => ?_); go_simp; (first | refine hK _ ?_ | refine ⟨_, fun _ _ => rfl, hK _ ?_⟩); clear hK K)
            (refine wpQuiet_step (fun K hK => ?_); go_simp; refine ⟨.string (T.extract i (i + d)), fun W hW => ?_, hK _ ?_⟩; (rw [if_pos (by omega), if_pos (by omega)]; exact ⟨rfl, rfl⟩); clear hK K)
            (refine wpQuiet_step (fun K hK => ?_); go_simp; refine ⟨(.int .i64 (V : Int)), fun W hW => ?_, hK _ ?_⟩; (first | (rw [CN.out W hW]; exact ⟨rfl, rfl⟩) | (rw [CN.out W hW]; rfl)); clear hK K)
            (refine wpQuiet_step (fun K hK => ?_); go_simp; (first | refine hK _ ?_ | refine ⟨_, fun _ _ => rfl, hK _ ?_⟩); clear hK K)
            (refine wpQuiet_step (fun K hK => ?_); go_simp; (first | refine hK _ ?_ | refine ⟨_, fun _ _ => rfl, hK _ ?_⟩); clear hK K)
            refine wpQuiet_nil ?_
            clear h0 h1 f1 Y
            intro w5 Y
            simp only [List.drop_succ_cons, List.drop_zero]
            refine store_k (.tmp 4) (.tmp 53) rfl rfl (w.heap.size + 1) rfl 2 _ i _ rfl Y.r.there ?_
            replace Y := Y.putR HU.out 2 V i (T.extract i (i + d))
            go_wp2
            rw [HX0.out] at Y ⊢
            rw [HRz.out]
            refine bodyPost_ret (v := .tuple #[tokv 2 x0 V i, .int .i64 0]) ?_ rfl ⟨rfl, Y.z⟩
            simp [results, Tryd.results30, asAddr]
            rw [load_k Y.r]
            rfl
      · rw [if_pos rfl] at hR
        have HRz := Lib.hid hR
        clear hR HX0
        rcases HZ.out with ⟨rfl, z3⟩ | z3
        all_goals
          go_enter Tryd.func30, Tryd.ntmps30
          go_wp2_with (first
            | (go_at_call 24; (with_reducible refine HR.out.mono ?_); rintro e w1 ⟨rfl, Y⟩; have h0 := Y.tx; obtain ⟨h1, f1⟩ := Y.c.at_ (i := 0) rfl)
            | (go_at_call 48; (with_reducible refine (HS.out _ Y.u).mono ?_); rintro e w2 ⟨rfl, hb⟩; replace Y := Y.on hb; clear h0 h1 f1 hb; have h0 := Y.tx; obtain ⟨h1, f1⟩ := Y.c.at_ (i := 0) rfl)
            | (refine store_i (.tmp 6) (.tmp 32) rfl rfl (w.heap.size + 1 + 1) rfl _ rfl _ h1 f1 ?_; refine genW (Pq := fun W => Nu w T (.int .i64 (P : Int)) 0 ⟨#[]⟩ 0 0 W) (G := fun W => wpList _ _ _ _ _ W) (Y.putC HU.out _) ?_; clear Y h0 h1 f1; intro w3 Y; have h0 := Y.tx; obtain ⟨h1, f1⟩ := Y.c.at_ (i := 0) rfl)
            | (go_at_call 46; (with_reducible refine (HP0.out _).mono ?_); rintro e w4 ⟨rfl, rfl⟩)
            | (go_at_call 46; (with_reducible refine (HP1.out _).mono ?_); rintro e w4 ⟨rfl, rfl⟩)
            | (refine store_k (.tmp 4) (.tmp 42) rfl rfl (w.heap.size + 1) rfl 0 0 0 _ rfl Y.r.there ?_; replace Y := Y.putR HU.out 0 0 0 ⟨#[]⟩)
            | (refine store_k (.tmp 4) (.tmp 46) rfl rfl (w.heap.size + 1) rfl 0 0 0 _ rfl Y.r.there ?_; replace Y := Y.putR HU.out 0 0 0 ⟨#[]⟩)
            | (refine store_k (.tmp 4) (.tmp 53) rfl rfl (w.heap.size + 1) rfl 2 _ i _ rfl Y.r.there ?_; replace Y := Y.putR HU.out 2 _ i _))
          rw [HRz.out]
          refine bodyPost_ret (v := .tuple #[zeroT, .int .i64 3]) ?_ rfl ⟨rfl, Y.z⟩
          simp [results, Tryd.results30, asAddr]
          rw [load_k Y.r]
          rfl
    · have z4 : ¬ (u : Int) = 0 := by omega
      have z6 : (i : Int) + (d : Int) < (L : Int) := by have := hud (by omega); omega
      rw [if_pos (by omega)] at hR
      clear hud HX0 HP0
      cases p1
      · rw [if_neg (by decide)] at hR
        by_cases hb : 1099511627776 < P
        · rw [if_pos hb] at hR
          have z5 : 1099511627776 < (P : Int) := by omega
          have HRz := Lib.hid hR
          clear hR HX1 hb
          rcases HZ.out with ⟨rfl, z3⟩ | z3
          all_goals
            go_enter Tryd.func30, Tryd.ntmps30
            go_wp2_with (first
              | (go_at_call 24; (with_reducible refine HR.out.mono ?_); rintro e w1 ⟨rfl, Y⟩; have h0 := Y.tx; obtain ⟨h1, f1⟩ := Y.c.at_ (i := 0) rfl)
              | (go_at_call 48; (with_reducible refine (HS.out _ Y.u).mono ?_); rintro e w2 ⟨rfl, hb⟩; replace Y := Y.on hb; clear h0 h1 f1 hb; have h0 := Y.tx; obtain ⟨h1, f1⟩ := Y.c.at_ (i := 0) rfl)
              | (refine store_i (.tmp 6) (.tmp 32) rfl rfl (w.heap.size + 1 + 1) rfl _ rfl _ h1 f1 ?_; refine genW (Pq := fun W => Nu w T (.int .i64 (P : Int)) 0 ⟨#[]⟩ 0 0 W) (G := fun W => wpList _ _ _ _ _ W) (Y.putC HU.out _) ?_; clear Y h0 h1 f1; intro w3 Y; have h0 := Y.tx; obtain ⟨h1, f1⟩ := Y.c.at_ (i := 0) rfl)
              | (go_at_call 46; (with_reducible refine (HP0.out _).mono ?_); rintro e w4 ⟨rfl, rfl⟩)
              | (go_at_call 46; (with_reducible refine (HP1.out _).mono ?_); rintro e w4 ⟨rfl, rfl⟩)
              | (refine store_k (.tmp 4) (.tmp 42) rfl rfl (w.heap.size + 1) rfl 0 0 0 _ rfl Y.r.there ?_; replace Y := Y.putR HU.out 0 0 0 ⟨#[]⟩)
              | (refine store_k (.tmp 4) (.tmp 46) rfl rfl (w.heap.size + 1) rfl 0 0 0 _ rfl Y.r.there ?_; replace Y := Y.putR HU.out 0 0 0 ⟨#[]⟩)
              | (refine store_k (.tmp 4) (.tmp 53) rfl rfl (w.heap.size + 1) rfl 2 _ i _ rfl Y.r.there ?_; replace Y := Y.putR HU.out 2 _ i _))
            rw [HRz.out]
            refine bodyPost_ret (v := .tuple #[zeroT, .int .i64 2]) ?_ rfl ⟨rfl, Y.z⟩
            simp [results, Tryd.results30, asAddr]
            rw [load_k Y.r]
            rfl
        · rw [if_neg hb] at hR
          have z5 : ¬ 1099511627776 < (P : Int) := by omega
          have HRz := Lib.hid hR
          clear hR hb
          rcases HZ.out with ⟨rfl, z3⟩ | z3
          all_goals
            have hT1 : ((i : Int) + (d : Int)).toNat = i + d := by omega
            have hT2 : ((i : Int) + (d : Int) + 1).toNat = i + (d + 1) := by omega
            go_enter Tryd.func30, Tryd.ntmps30
            go_wp2_with (first
              | (go_at_call 24; (with_reducible refine HR.out.mono ?_); rintro e w1 ⟨rfl, Y⟩; have h0 := Y.tx; obtain ⟨h1, f1⟩ := Y.c.at_ (i := 0) rfl)
              | (go_at_call 48; (with_reducible refine (HS.out _ Y.u).mono ?_); rintro e w2 ⟨rfl, hb⟩; replace Y := Y.on hb; clear h0 h1 f1 hb; have h0 := Y.tx; obtain ⟨h1, f1⟩ := Y.c.at_ (i := 0) rfl)
              | (refine store_i (.tmp 6) (.tmp 32) rfl rfl (w.heap.size + 1 + 1) rfl _ rfl _ h1 f1 ?_; refine genW (Pq := fun W => Nu w T (.int .i64 (P : Int)) 0 ⟨#[]⟩ 0 0 W) (G := fun W => wpList _ _ _ _ _ W) (Y.putC HU.out _) ?_; clear Y h0 h1 f1; intro w3 Y; have h0 := Y.tx; obtain ⟨h1, f1⟩ := Y.c.at_ (i := 0) rfl)
              | (go_at_call 46; (with_reducible refine (HP0.out _).mono ?_); rintro e w4 ⟨rfl, rfl⟩)
              | (go_at_call 46; (with_reducible refine (HP1.out _).mono ?_); rintro e w4 ⟨rfl, rfl⟩)
              | (refine store_k (.tmp 4) (.tmp 42) rfl rfl (w.heap.size + 1) rfl 0 0 0 _ rfl Y.r.there ?_; replace Y := Y.putR HU.out 0 0 0 ⟨#[]⟩)
              | (refine store_k (.tmp 4) (.tmp 46) rfl rfl (w.heap.size + 1) rfl 0 0 0 _ rfl Y.r.there ?_; replace Y := Y.putR HU.out 0 0 0 ⟨#[]⟩)
              | (refine store_k (.tmp 4) (.tmp 53) rfl rfl (w.heap.size + 1) rfl 2 _ i _ rfl Y.r.there ?_; replace Y := Y.putR HU.out 2 _ i _))
            have CT : Hid (∀ W, Nu w T (.int .i64 (P : Int)) 0 ⟨#[]⟩ 0 0 W → W.cell? ⟨w.heap.size, 0, none⟩ = some (.string T)) := Lib.hid (fun W h => h.tx)
            have CN : Hid (∀ W, Nu w T (.int .i64 (P : Int)) 0 ⟨#[]⟩ 0 0 W → W.cell? ⟨w.heap.size + 1 + 1, 0, none⟩ = some (.int .i64 (P : Int))) := Lib.hid (fun W h => (h.c.at_ (i := 0) rfl).1)
            refine QTail.region (C := fun W => Nu w T (.int .i64 (P : Int)) 0 ⟨#[]⟩ 0 0 W) 7 (by kernel_rfl) (by kernel_rfl) Y.drew ?_
            (refine wpQuiet_step (fun K hK => ?_); go_simp; refine ⟨(.string T), fun W hW => ?_, hK _ ?_⟩; (first | (rw [CT.out W hW]; exact ⟨rfl, rfl⟩) | (rw [CT.out W hW]; rfl)); clear hK K)
            (refine wpQuiet_step (fun K hK => ?_); go_simp; (first | refine hK _ ?_ | refine ⟨_, fun _ _ => rfl, hK _ ?_⟩); clear hK K)
            (refine wpQuiet_step (fun K hK => ?_); go_simp; (first | refine hK _ ?_ | refine ⟨_, fun _ _ => rfl, hK _ ?_⟩); clear hK K)
            (refine wpQuiet_step (fun K hK => ?_); go_simp; refine ⟨.string (T.extract i (i + (d + 1))), fun W hW => ?_, hK _ ?_⟩; (rw [if_pos (by omega), if_pos (by omega)]; exact ⟨rfl, rfl⟩); clear hK K)
            (refine wpQuiet_step (fun K hK => ?_); go_simp; refine ⟨(.int .i64 (P : Int)), fun W hW => ?_, hK _ ?_⟩; (first | (rw [CN.out W hW]; exact ⟨rfl, rfl⟩) | (rw [CN.out W hW]; rfl)); clear hK K)
            (refine wpQuiet_step (fun K hK => ?_); go_simp; (first | refine hK _ ?_ | refine ⟨_, fun _ _ => rfl, hK _ ?_⟩); clear hK K)
            (refine wpQuiet_step (fun K hK => ?_); go_simp; (first | refine hK _ ?_ | refine ⟨_, fun _ _ => rfl, hK _ ?_⟩); clear hK K)
            refine wpQuiet_nil ?_
            clear h0 h1 f1 Y
            intro w5 Y
            simp only [List.drop_succ_cons, List.drop_zero]
            refine store_k (.tmp 4) (.tmp 53) rfl rfl (w.heap.size + 1) rfl 2 _ i _ rfl Y.r.there ?_
            replace Y := Y.putR HU.out 2 P i (T.extract i (i + (d + 1)))
            go_wp2
            rw [HX1.out] at Y ⊢
            rw [HRz.out]
            refine bodyPost_ret (v := .tuple #[tokv 2 x1 P i, .int .i64 0]) ?_ rfl ⟨rfl, Y.z⟩
            simp [results, Tryd.results30, asAddr]
            rw [load_k Y.r]
            rfl
      · rw [if_pos rfl] at hR
        have HRz := Lib.hid hR
        clear hR HX1
        rcases HZ.out with ⟨rfl, z3⟩ | z3
        all_goals
          go_enter Tryd.func30, Tryd.ntmps30
          go_wp2_with (first
            | (go_at_call 24; (with_reducible refine HR.out.mono ?_); rintro e w1 ⟨rfl, Y⟩; have h0 := Y.tx; obtain ⟨h1, f1⟩ := Y.c.at_ (i := 0) rfl)
            | (go_at_call 48; (with_reducible refine (HS.out _ Y.u).mono ?_); rintro e w2 ⟨rfl, hb⟩; replace Y := Y.on hb; clear h0 h1 f1 hb; have h0 := Y.tx; obtain ⟨h1, f1⟩ := Y.c.at_ (i := 0) rfl)
            | (refine store_i (.tmp 6) (.tmp 32) rfl rfl (w.heap.size + 1 + 1) rfl _ rfl _ h1 f1 ?_; refine genW (Pq := fun W => Nu w T (.int .i64 (P : Int)) 0 ⟨#[]⟩ 0 0 W) (G := fun W => wpList _ _ _ _ _ W) (Y.putC HU.out _) ?_; clear Y h0 h1 f1; intro w3 Y; have h0 := Y.tx; obtain ⟨h1, f1⟩ := Y.c.at_ (i := 0) rfl)
            | (go_at_call 46; (with_reducible refine (HP0.out _).mono ?_); rintro e w4 ⟨rfl, rfl⟩)
            | (go_at_call 46; (with_reducible refine (HP1.out _).mono ?_); rintro e w4 ⟨rfl, rfl⟩)
            | (refine store_k (.tmp 4) (.tmp 42) rfl rfl (w.heap.size + 1) rfl 0 0 0 _ rfl Y.r.there ?_; replace Y := Y.putR HU.out 0 0 0 ⟨#[]⟩)
            | (refine store_k (.tmp 4) (.tmp 46) rfl rfl (w.heap.size + 1) rfl 0 0 0 _ rfl Y.r.there ?_; replace Y := Y.putR HU.out 0 0 0 ⟨#[]⟩)
            | (refine store_k (.tmp 4) (.tmp 53) rfl rfl (w.heap.size + 1) rfl 2 _ i _ rfl Y.r.there ?_; replace Y := Y.putR HU.out 2 _ i _))
          rw [HRz.out]
          refine bodyPost_ret (v := .tuple #[zeroT, .int .i64 3]) ?_ rfl ⟨rfl, Y.z⟩
          simp [results, Tryd.results30, asAddr]
          rw [load_k Y.r]
          rfl
end Lx
end Go.Proofs.YtjijlepkcghmeaaDoor
