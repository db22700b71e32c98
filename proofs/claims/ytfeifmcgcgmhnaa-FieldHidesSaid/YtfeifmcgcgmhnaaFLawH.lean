/- The walk of FieldHides. Conditions: the slices read as lists. -/
import Derived.Test.YtfeifmcgcgmhnaaFApp
import Derived.Test.YtfeifmcgcgmhnaaFLawP
import Derived.Test.YtfeifmcgcgmhnaaFTurn
namespace Go.Proofs.Ytfeifmcgcgmhnaa
open Go.RowKit
namespace Gf
open Wire (Lies bv b1 lies_own)

set_option maxRecDepth 100000 in
set_option maxHeartbeats 2000000 in
theorem hidesLaw (xs ys : List UInt8) (a b x : UInt8) (n c m d : Nat) (A B : Option Addr) (w : World) (hl : Lies w w.heap.size 1 A n c (xs.map bv)) (hy : Lies w w.heap.size 1 B m d (ys.map bv)) :
    Calls Try.prog 8 #[.slice A n c, .slice B m d, .int .u8 (a.toNat : Int), .int .u8 (b.toNat : Int), .int .u8 (x.toNat : Int)] w (Tells true w) := by
  have HS := Lib.hid sanity_any
  have HFW := Lib.hid (few_any n c m d A B)
  have Z := Below.refl w.heap.size w
  by_cases hfew : n ≤ 40 ∧ m ≤ 40
  · rw [decide_eq_true hfew] at HFW
    by_cases hnm : n = m
    · subst hnm
      have hn40 := hfew.1
      have hxn : xs.length = n := by have := hl.len; simpa using this
      have hyn : ys.length = n := by have := hy.len; simpa using this
      have HXN := Lib.hid hxn
      have HYN := Lib.hid hyn
      have hmost : c ≤ 9223372036854775807 := by have := hl.most; unfold maxLen at this; omega
      have hmost2 : d ≤ 9223372036854775807 := by have := hy.most; unfold maxLen at this; omega
      have hle := hl.le
      have hle2 := hy.le
      clear hfew hxn hyn
      by_cases hf : fit (0 :: xs)
      · have HP : ∃ P, P.length = n + 1 ∧ (∀ W A1 A2 c1 c2, Lies W W.heap.size 1 A1 (n + 1) c1 ((0 :: xs).map bv) → Lies W W.heap.size 1 A2 (n + 1) c2 ((a :: ys).map bv) → Calls Try.prog 21 #[.slice A1 (n + 1) c1, .slice A2 (n + 1) c2] W (GivesS P W)) ∧ eval 0 P = a ∧ (∀ k u y, xs[k]? = some u → ys[k]? = some y → eval u P = y) :=
          ⟨coeff (0 :: xs) (a :: ys), by rw [coeff_length, List.length_cons, HXN.out], fun W A1 A2 c1 c2 h1 h2 => coefficients_any _ _ _ _ _ _ _ _ h1 h2 hf, coeff_at hf.2.2 (j := 0) rfl,
            fun k u y hu hv => by
              have h := coeff_at (ys := a :: ys) hf.2.2 (j := k + 1) (by simpa using hu)
              rw [h, List.getD_cons_succ, List.getD_eq_getElem?_getD, hv]; rfl⟩
        have HQ : ∃ P, P.length = n + 1 ∧ (∀ W A1 A2 c1 c2, Lies W W.heap.size 1 A1 (n + 1) c1 ((0 :: xs).map bv) → Lies W W.heap.size 1 A2 (n + 1) c2 ((b :: ys).map bv) → Calls Try.prog 21 #[.slice A1 (n + 1) c1, .slice A2 (n + 1) c2] W (GivesS P W)) ∧ eval 0 P = b ∧ (∀ k u y, xs[k]? = some u → ys[k]? = some y → eval u P = y) :=
          ⟨coeff (0 :: xs) (b :: ys), by rw [coeff_length, List.length_cons, HXN.out], fun W A1 A2 c1 c2 h1 h2 => coefficients_any _ _ _ _ _ _ _ _ h1 h2 hf, coeff_at hf.2.2 (j := 0) rfl,
            fun k u y hu hv => by
              have h := coeff_at (ys := b :: ys) hf.2.2 (j := k + 1) (by simpa using hu)
              rw [h, List.getD_cons_succ, List.getD_eq_getElem?_getD, hv]; rfl⟩
        obtain ⟨P, hpl, hpc, hp0, hpv⟩ := HP
        obtain ⟨Q, hql, hqc, hq0, hqv⟩ := HQ
        have hpq := hides (p := P) (q := Q) hf.2.2 (by rw [hpl, HXN.out]) (by rw [hql, HXN.out]) (fun u hu => by
          obtain ⟨k, hk⟩ := List.getElem?_of_mem hu
          have hkn : k < xs.length := (List.getElem?_eq_some_iff.1 hk).1
          have hky : ys[k]? = some (ys[k]'(by rw [HYN.out, ← HXN.out]; exact hkn)) := List.getElem?_eq_getElem _
          rw [hpv k u _ hk hky, hqv k u _ hk hky]) x
        rw [hp0, hq0] at hpq
        have HPL := Lib.hid hpl
        have HQL := Lib.hid hql
        have HPC := Lib.hid hpc
        have HQC := Lib.hid hqc
        have HPV := Lib.hid hpv
        have HQV := Lib.hid hqv
        have HPQ := Lib.hid hpq
        have HP0 : Hid (∀ W A1 c1, Lies W W.heap.size 1 A1 (n + 1) c1 (P.map bv) → Calls Try.prog 23 #[.slice A1 (n + 1) c1, .int .u8 0] W (GivesB a W)) := Lib.hid (fun W A1 c1 h => by
          have h2 := eval_any P 0 (n + 1) c1 A1 W h
          rw [hp0] at h2
          exact h2)
        have HQ0 : Hid (∀ W A1 c1, Lies W W.heap.size 1 A1 (n + 1) c1 (Q.map bv) → Calls Try.prog 23 #[.slice A1 (n + 1) c1, .int .u8 0] W (GivesB b W)) := Lib.hid (fun W A1 c1 h => by
          have h2 := eval_any Q 0 (n + 1) c1 A1 W h
          rw [hq0] at h2
          exact h2)
        clear hf hpl hql hpc hqc hp0 hq0 hpv hqv hpq
        go_enter Try.func8, Try.ntmps8
        go_wp2_with (first
          | (go_at_call 16; (with_reducible refine (HFW.out _).mono ?_); rintro e w0 ⟨rfl, hb⟩; replace Z := bcj Z hb; replace hl := hl.on hb; replace hy := hy.on hb; have h0 := hl.on (b1 w0 (.cells #[.int .u8 0] 5)); clear hb)
          | (at_builtin; refine wpList_append_lies rfl (.tmp 32) (.tmp 33) rfl w0.heap.size w0.heap.size 1 1 [0] rfl (own_lit1 w0 0) A n c xs rfl h0 (by omega) (b1 w0 _).size (n + 1) (by omega) (0 :: xs) rfl ?_; intro g1 c1 w1 ho hb; have hb2 := (b1 w0 _).trans hb; replace Z := bcj Z hb2; replace hl := hl.on hb2; replace hy := hy.on hb2; have s1 := lies_own ho; have h1 := hy.on (b1 w1 (.cells #[.int .u8 (a.toNat : Int)] 5)); clear ho hb hb2 h0)
          | (at_builtin; refine wpList_append_lies rfl (.tmp 36) (.tmp 37) rfl w1.heap.size w1.heap.size 1 1 [a] rfl (own_lit1 w1 a) B n d ys rfl h1 (by omega) (b1 w1 _).size (n + 1) (by omega) (a :: ys) rfl ?_; intro g2 c2 w2 ho hb; have hb2 := (b1 w1 _).trans hb; replace Z := bcj Z hb2; replace hl := hl.on hb2; replace hy := hy.on hb2; replace s1 := s1.on hb2; have s2 := lies_own ho; clear ho hb hb2 h1)
          | (go_at_call 21; (with_reducible refine (HPC.out _ _ _ _ _ s1 s2).mono ?_); rintro e w3 ⟨A3, n3, c3, rfl, r3, hb⟩; have hn3 : n3 = n + 1 := (by have h := r3.len; rw [List.length_map, HPL.out] at h; omega); subst hn3; replace Z := bcj Z hb; replace hl := hl.on hb; replace hy := hy.on hb; have h3 := hl.on (b1 w3 (.cells #[.int .u8 0] 5)); clear hb s1 s2)
          | (at_builtin; refine wpList_append_lies rfl (.tmp 43) (.tmp 44) rfl w3.heap.size w3.heap.size 1 1 [0] rfl (own_lit1 w3 0) A n c xs rfl h3 (by omega) (b1 w3 _).size (n + 1) (by omega) (0 :: xs) rfl ?_; intro g4 c4 w4 ho hb; have hb2 := (b1 w3 _).trans hb; replace Z := bcj Z hb2; replace hl := hl.on hb2; replace hy := hy.on hb2; replace r3 := r3.on hb2; have s4 := lies_own ho; have h4 := hy.on (b1 w4 (.cells #[.int .u8 (b.toNat : Int)] 5)); clear ho hb hb2 h3)
          | (at_builtin; refine wpList_append_lies rfl (.tmp 47) (.tmp 48) rfl w4.heap.size w4.heap.size 1 1 [b] rfl (own_lit1 w4 b) B n d ys rfl h4 (by omega) (b1 w4 _).size (n + 1) (by omega) (b :: ys) rfl ?_; intro g5 c5 w5 ho hb; have hb2 := (b1 w4 _).trans hb; replace Z := bcj Z hb2; replace hl := hl.on hb2; replace hy := hy.on hb2; replace s4 := s4.on hb2; replace r3 := r3.on hb2; have s5 := lies_own ho; clear ho hb hb2 h4)
          | (go_at_call 21; (with_reducible refine (HQC.out _ _ _ _ _ s4 s5).mono ?_); rintro e w6 ⟨A6, n6, c6, rfl, r6, hb⟩; have hn6 : n6 = n + 1 := (by have h := r6.len; rw [List.length_map, HQL.out] at h; omega); subst hn6; replace Z := bcj Z hb; replace hl := hl.on hb; replace hy := hy.on hb; replace r3 := r3.on hb; clear hb s4 s5)
          | (go_at_call 23; (with_reducible refine (HP0.out _ _ _ r3).mono ?_); rintro e w7 ⟨rfl, hb⟩; replace Z := bcj Z hb; replace hl := hl.on hb; replace hy := hy.on hb; replace r3 := r3.on hb; replace r6 := r6.on hb; clear hb)
          | (go_at_call 23; (with_reducible refine (HQ0.out _ _ _ r6).mono ?_); rintro e w8 ⟨rfl, hb⟩; replace Z := bcj Z hb; replace hl := hl.on hb; replace hy := hy.on hb; replace r3 := r3.on hb; replace r6 := r6.on hb; clear hb))
        have HL := Lib.hid hl
        have HY := Lib.hid hy
        have HR3 := Lib.hid r3
        have HR6 := Lib.hid r6
        have HZ := Lib.hid Z
        clear hl hy r3 r6 Z
        go_loopw [16, 17] (fun nv iv wr => ∃ (k : Nat), k ≤ n ∧ nv = .bool (decide (x ∈ xs.take k)) ∧ iv = .int .i64 (k : Int) ∧ Below w8.heap.size w8 wr) (fun _ iv _ => (n - intOf iv).toNat)
        case atStart => exact ⟨0, by omega, by simp, rfl, Below.refl _ _⟩
        case round =>
          obtain ⟨k, hk, rfl, rfl, hbw⟩ := hrel
          by_cases hlt : k < n
          · have z0 : (0 : Int) ≤ (k : Int) := by omega
            have z1 : (k : Int) < (n : Int) := by omega
            obtain ⟨b3, o3, u, rfl, hbb, hu, hcx⟩ := (HL.out.on hbw).at_ hlt
            obtain ⟨b4, o4, u2, rfl, hbb2, hu2, hcy⟩ := (HY.out.on hbw).at_ hlt
            obtain ⟨u, ha⟩ : ∃ a, xs[k]? = some a := ⟨_, List.getElem?_eq_getElem (by rw [HXN.out]; exact hlt)⟩
            obtain ⟨y, hya⟩ : ∃ a, ys[k]? = some a := ⟨_, List.getElem?_eq_getElem (by rw [HYN.out]; exact hlt)⟩
            rw [List.getElem?_map, ha] at hu
            rw [List.getElem?_map, hya] at hu2
            cases hu
            cases hu2
            unfold bv at hcx hcy
            have CX : Hid (∀ W, Below wr.heap.size wr W → W.cell? ⟨b3, o3 + k, none⟩ = some (.int .u8 (u.toNat : Int))) := Lib.hid (fun W h => (h.cell (by show b3 < wr.heap.size; exact hbb)).trans hcx)
            have CY : Hid (∀ W, Below wr.heap.size wr W → W.cell? ⟨b4, o4 + k, none⟩ = some (.int .u8 (y.toNat : Int))) := Lib.hid (fun W h => (h.cell (by show b4 < wr.heap.size; exact hbb2)).trans hcy)
            have HEP : Hid (∀ W, Below wr.heap.size wr W → Calls Try.prog 23 #[.slice A3 (n + 1) c3, .int .u8 (u.toNat : Int)] W (GivesB y W)) := Lib.hid (fun W h => by
              have h2 := eval_any P u (n + 1) c3 A3 W ((HR3.out.on hbw).on h)
              rwa [HPV.out k u y ha hya] at h2)
            have HEQ : Hid (∀ W, Below wr.heap.size wr W → Calls Try.prog 23 #[.slice A6 (n + 1) c6, .int .u8 (u.toNat : Int)] W (GivesB y W)) := Lib.hid (fun W h => by
              have h2 := eval_any Q u (n + 1) c6 A6 W ((HR6.out.on hbw).on h)
              rwa [HQV.out k u y ha hya] at h2)
            have hin : ∃ B1 B2 : Bool, decide (x ∈ xs.take k) = B1 ∧ ((u.toNat : Int) == (x.toNat : Int)) = B2 ∧ decide (x ∈ xs.take (k + 1)) = (B1 || B2) := by
              refine ⟨_, _, rfl, rfl, ?_⟩
              have e : ((u.toNat : Int) == (x.toNat : Int)) = decide (x = u) := by
                rw [Bool.eq_iff_iff]
                simp only [beq_iff_eq, decide_eq_true_eq]
                constructor
                · intro h; exact (UInt8.toNat_inj.1 (by omega)).symm
                · intro h; rw [h]
              rw [e, List.take_add_one, ha]
              simp
            obtain ⟨B1, B2, hB1, hB2, hB3⟩ := hin
            rw [hB1]
            have HB3 := Lib.hid hB3
            clear ha hya hB3 hB1
            rcases B1 with _ | _
            all_goals
              go_wp2
              refine QTail.whole (fun W => Below wr.heap.size wr W) (by kernel_rfl) (by kernel_rfl) (Below.refl _ _).drew ?_
              (refine wpQuiet_step (fun K hK => ?_); go_simp; (first | refine hK _ ?_ | refine ⟨_, fun _ _ => rfl, hK _ ?_⟩); clear hK K)
              (refine wpQuiet_step (fun K hK => ?_); go_simp; (first | refine hK _ ?_ | refine ⟨_, fun _ _ => rfl, hK _ ?_⟩); clear hK K)
              (refine wpQuiet_step (fun K hK => ?_); go_simp; (first | refine hK _ ?_ | refine ⟨_, fun _ _ => rfl, hK _ ?_⟩); clear hK K)
              (refine wpQuiet_step (fun K hK => ?_); go_simp; refine ⟨.pointer (some ⟨b3, o3 + k, none⟩), fun W hW => ?_, hK _ ?_⟩; (first | (rw [if_pos (by omega)]; exact ⟨rfl, rfl⟩) | (rw [if_pos (by omega)]; rfl) | exact ⟨rfl, rfl⟩ | rfl); clear hK K)
              (refine wpQuiet_step (fun K hK => ?_); go_simp; refine ⟨.int .u8 (u.toNat : Int), fun W hW => ?_, hK _ ?_⟩; (first | (rw [CX.out W hW]; exact ⟨rfl, rfl⟩) | (rw [CX.out W hW]; rfl)); clear hK K)
              (refine wpQuiet_step (fun K hK => ?_); go_simp; refine ⟨_, fun W hW => (HEP.out W hW).mono fun e w' ⟨he, hb⟩ => ⟨he, hW.trans (hb.mono hW.size)⟩, hK _ ?_⟩; clear hK K)
              (refine wpQuiet_step (fun K hK => ?_); go_simp; (first | refine hK _ ?_ | refine ⟨_, fun _ _ => rfl, hK _ ?_⟩); clear hK K)
              (refine wpQuiet_step (fun K hK => ?_); go_simp; (first | refine hK _ ?_ | refine ⟨_, fun _ _ => rfl, hK _ ?_⟩); clear hK K)
              (refine wpQuiet_step (fun K hK => ?_); go_simp; refine ⟨.pointer (some ⟨b4, o4 + k, none⟩), fun W hW => ?_, hK _ ?_⟩; (first | (rw [if_pos (by omega)]; exact ⟨rfl, rfl⟩) | (rw [if_pos (by omega)]; rfl) | exact ⟨rfl, rfl⟩ | rfl); clear hK K)
              (refine wpQuiet_step (fun K hK => ?_); go_simp; refine ⟨.int .u8 (y.toNat : Int), fun W hW => ?_, hK _ ?_⟩; (first | (rw [CY.out W hW]; exact ⟨rfl, rfl⟩) | (rw [CY.out W hW]; rfl)); clear hK K)
              (refine wpQuiet_step (fun K hK => ?_); go_simp; (first | refine hK _ ?_ | refine ⟨_, fun _ _ => rfl, hK _ ?_⟩); clear hK K)
              (refine wpQuiet_step (fun K hK => ?_); go_simp; (first | refine hK _ ?_ | refine ⟨_, fun _ _ => rfl, hK _ ?_⟩); clear hK K)
              (refine wpQuiet_step (fun K hK => ?_); go_simp; (first | refine hK _ ?_ | refine ⟨_, fun _ _ => rfl, hK _ ?_⟩); clear hK K)
              (refine wpQuiet_step (fun K hK => ?_); go_simp; (first | refine hK _ ?_ | refine ⟨_, fun _ _ => rfl, hK _ ?_⟩); clear hK K)
              (refine wpQuiet_step (fun K hK => ?_); go_simp; (first | refine hK _ ?_ | refine ⟨_, fun _ _ => rfl, hK _ ?_⟩); clear hK K)
              (refine wpQuiet_step (fun K hK => ?_); go_simp; refine ⟨.pointer (some ⟨b3, o3 + k, none⟩), fun W hW => ?_, hK _ ?_⟩; (first | (rw [if_pos (by omega)]; exact ⟨rfl, rfl⟩) | (rw [if_pos (by omega)]; rfl) | exact ⟨rfl, rfl⟩ | rfl); clear hK K)
              (refine wpQuiet_step (fun K hK => ?_); go_simp; refine ⟨.int .u8 (u.toNat : Int), fun W hW => ?_, hK _ ?_⟩; (first | (rw [CX.out W hW]; exact ⟨rfl, rfl⟩) | (rw [CX.out W hW]; rfl)); clear hK K)
              (refine wpQuiet_step (fun K hK => ?_); go_simp; refine ⟨_, fun W hW => (HEQ.out W hW).mono fun e w' ⟨he, hb⟩ => ⟨he, hW.trans (hb.mono hW.size)⟩, hK _ ?_⟩; clear hK K)
              (refine wpQuiet_step (fun K hK => ?_); go_simp; (first | refine hK _ ?_ | refine ⟨_, fun _ _ => rfl, hK _ ?_⟩); clear hK K)
              (refine wpQuiet_step (fun K hK => ?_); go_simp; (first | refine hK _ ?_ | refine ⟨_, fun _ _ => rfl, hK _ ?_⟩); clear hK K)
              (refine wpQuiet_step (fun K hK => ?_); go_simp; refine ⟨.pointer (some ⟨b4, o4 + k, none⟩), fun W hW => ?_, hK _ ?_⟩; (first | (rw [if_pos (by omega)]; exact ⟨rfl, rfl⟩) | (rw [if_pos (by omega)]; rfl) | exact ⟨rfl, rfl⟩ | rfl); clear hK K)
              (refine wpQuiet_step (fun K hK => ?_); go_simp; refine ⟨.int .u8 (y.toNat : Int), fun W hW => ?_, hK _ ?_⟩; (first | (rw [CY.out W hW]; exact ⟨rfl, rfl⟩) | (rw [CY.out W hW]; rfl)); clear hK K)
              (refine wpQuiet_step (fun K hK => ?_); go_simp; (first | refine hK _ ?_ | refine ⟨_, fun _ _ => rfl, hK _ ?_⟩); clear hK K)
              (refine wpQuiet_step (fun K hK => ?_); go_simp; (first | refine hK _ ?_ | refine ⟨_, fun _ _ => rfl, hK _ ?_⟩); clear hK K)
              refine wpQuiet_nil ?_
              intro w9 hq
              go_wp2
              go_roundw
              case rel => exact ⟨k + 1, by omega, by rw [HB3.out]; rfl, by go_num, hbw.trans (hq.mono hbw.size)⟩
              case measure => simp [intOf]; omega
          · obtain rfl : k = n := by omega
            have z1 : ¬ (k : Int) < (k : Int) := by omega
            have hT : xs.take k = xs := List.take_of_length_le (by rw [HXN.out]; omega)
            rw [hT]
            have Z := bcj HZ.out hbw
            have r3 := HR3.out.on hbw
            have r6 := HR6.out.on hbw
            clear hT hbw
            have HEP := Lib.hid (fun W h => eval_any P x (k + 1) c3 A3 W h)
            have HEQ := Lib.hid (fun W h => eval_any Q x (k + 1) c6 A6 W h)
            have heq : ∀ u v : UInt8, ((u.toNat : Int) == (v.toNat : Int)) = decide (u = v) := fun u v => by
              rw [Bool.eq_iff_iff]
              simp only [beq_iff_eq, decide_eq_true_eq]
              constructor
              · intro h; exact UInt8.toNat_inj.1 (by omega)
              · intro h; rw [h]
            have hfin : ∃ K E F : Bool, decide (x ∈ xs) = K ∧ (((eval x P).toNat : Int) == ((eval x Q).toNat : Int)) = E ∧ ((a.toNat : Int) == (b.toNat : Int)) = F ∧ E = (K || F) := by
              refine ⟨_, _, _, rfl, rfl, rfl, ?_⟩
              rw [heq, heq, Bool.eq_iff_iff, Bool.or_eq_true, decide_eq_true_iff, decide_eq_true_iff, decide_eq_true_iff]
              exact HPQ.out
            obtain ⟨K, E, F, hK, hE, hF, hEF⟩ := hfin
            rw [hK]
            generalize eval x P = U at *
            generalize eval x Q = V at *
            clear hK heq
            rcases K with _ | _
            all_goals rcases F with _ | _
            all_goals subst hEF
            all_goals
              go_wp2_with (first
                | (go_at_call 13; (with_reducible refine (HS.out _).mono ?_); rintro e w9 ⟨rfl, hb⟩; replace Z := bcj Z hb; replace r3 := r3.on hb; replace r6 := r6.on hb; clear hb)
                | (go_at_call 23; (with_reducible refine (HEP.out _ r3).mono ?_); rintro e w10 ⟨rfl, hb⟩; replace Z := bcj Z hb; replace r6 := r6.on hb; clear hb r3)
                | (go_at_call 23; (with_reducible refine (HEQ.out _ r6).mono ?_); rintro e w11 ⟨rfl, hb⟩; replace Z := bcj Z hb; clear hb r6))
              go_ret
              exact ⟨rfl, Z⟩
      · have HC := Lib.hid (fun W A1 A2 c1 c2 h => coefficients_bad (0 :: xs) (n + 1) c1 c2 A1 A2 W h hf)
        clear hf
        go_enter Try.func8, Try.ntmps8
        go_wp2_with (first
          | (go_at_call 16; (with_reducible refine (HFW.out _).mono ?_); rintro e w0 ⟨rfl, hb⟩; replace Z := bcj Z hb; replace hl := hl.on hb; replace hy := hy.on hb; have h0 := hl.on (b1 w0 (.cells #[.int .u8 0] 5)); clear hb)
          | (at_builtin; refine wpList_append_lies rfl (.tmp 32) (.tmp 33) rfl w0.heap.size w0.heap.size 1 1 [0] rfl (own_lit1 w0 0) A n c xs rfl h0 (by omega) (b1 w0 _).size (n + 1) (by omega) (0 :: xs) rfl ?_; intro g1 c1 w1 ho hb; have hb2 := (b1 w0 _).trans hb; replace Z := bcj Z hb2; replace hl := hl.on hb2; replace hy := hy.on hb2; have s1 := lies_own ho; have h1 := hy.on (b1 w1 (.cells #[.int .u8 (a.toNat : Int)] 5)); clear ho hb hb2 h0)
          | (at_builtin; refine wpList_append_lies rfl (.tmp 36) (.tmp 37) rfl w1.heap.size w1.heap.size 1 1 [a] rfl (own_lit1 w1 a) B n d ys rfl h1 (by omega) (b1 w1 _).size (n + 1) (by omega) (a :: ys) rfl ?_; intro g2 c2 w2 ho hb; have hb2 := (b1 w1 _).trans hb; replace Z := bcj Z hb2; replace hl := hl.on hb2; replace hy := hy.on hb2; replace s1 := s1.on hb2; have s2 := lies_own ho; clear ho hb hb2 h1)
          | (go_at_call 21; (with_reducible refine (HC.out _ _ _ _ _ s1).mono ?_); rintro e w3 ⟨rfl, hb⟩; replace Z := bcj Z hb; replace hl := hl.on hb; replace hy := hy.on hb; have h3 := hl.on (b1 w3 (.cells #[.int .u8 0] 5)); clear hb s1 s2)
          | (at_builtin; refine wpList_append_lies rfl (.tmp 43) (.tmp 44) rfl w3.heap.size w3.heap.size 1 1 [0] rfl (own_lit1 w3 0) A n c xs rfl h3 (by omega) (b1 w3 _).size (n + 1) (by omega) (0 :: xs) rfl ?_; intro g4 c4 w4 ho hb; have hb2 := (b1 w3 _).trans hb; replace Z := bcj Z hb2; replace hl := hl.on hb2; replace hy := hy.on hb2; have s4 := lies_own ho; have h4 := hy.on (b1 w4 (.cells #[.int .u8 (b.toNat : Int)] 5)); clear ho hb hb2 h3)
          | (at_builtin; refine wpList_append_lies rfl (.tmp 47) (.tmp 48) rfl w4.heap.size w4.heap.size 1 1 [b] rfl (own_lit1 w4 b) B n d ys rfl h4 (by omega) (b1 w4 _).size (n + 1) (by omega) (b :: ys) rfl ?_; intro g5 c5 w5 ho hb; have hb2 := (b1 w4 _).trans hb; replace Z := bcj Z hb2; replace hl := hl.on hb2; replace hy := hy.on hb2; replace s4 := s4.on hb2; have s5 := lies_own ho; clear ho hb hb2 h4)
          | (go_at_call 21; (with_reducible refine (HC.out _ _ _ _ _ s4).mono ?_); rintro e w6 ⟨rfl, hb⟩; replace Z := bcj Z hb; clear hb s4 s5)
          | (go_at_call 13; (with_reducible refine (HS.out _).mono ?_); rintro e w9 ⟨rfl, hb⟩; replace Z := bcj Z hb; clear hb))
        go_ret
        exact ⟨rfl, Z⟩
    · have hnm2 : ¬ (n : Int) = (m : Int) := by omega
      clear hfew hl hy
      go_enter Try.func8, Try.ntmps8
      go_wp2_with (first
        | (go_at_call 16; (with_reducible refine (HFW.out _).mono ?_); rintro e w0 ⟨rfl, hb⟩; replace Z := bcj Z hb; clear hb)
        | (go_at_call 13; (with_reducible refine (HS.out _).mono ?_); rintro e w7 ⟨rfl, hb⟩; replace Z := bcj Z hb; clear hb))
      go_ret
      exact ⟨rfl, Z⟩
  · rw [decide_eq_false hfew] at HFW
    clear hfew hl hy
    go_enter Try.func8, Try.ntmps8
    go_wp2_with (first
      | (go_at_call 16; (with_reducible refine (HFW.out _).mono ?_); rintro e w0 ⟨rfl, hb⟩; replace Z := bcj Z hb; clear hb)
      | (go_at_call 13; (with_reducible refine (HS.out _).mono ?_); rintro e w7 ⟨rfl, hb⟩; replace Z := bcj Z hb; clear hb))
    go_ret
    exact ⟨rfl, Z⟩
end Gf
end Go.Proofs.Ytfeifmcgcgmhnaa
