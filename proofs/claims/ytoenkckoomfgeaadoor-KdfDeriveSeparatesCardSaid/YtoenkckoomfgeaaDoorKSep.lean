/- The walk of the statement KdfDeriveSeparates. Condition: the tables read as the program lays them, the key is of at most 2^47 bytes; the package's contracts are a hypothesis here. -/
import Derived.Test.YtoenkckoomfgeaaDoorKLaw
namespace Go.Proofs.YtoenkckoomfgeaaDoor
open Go.RowKit
namespace Kdf
open Hash (Table tabj bcj GivesT sizeS Arr fewB fewB_all few_any refMac_any mac)
open Wire (encStr bv sv Lies b1 lies_lit)

/-- The tables; the two slices of texts that came in. -/
structure L2 (w W : World) (A : Option Addr) (n c : Nat) (a : List (List UInt8)) (B : Option Addr) (m d : Nat) (b : List (List UInt8)) : Prop where
  t : T2 w W
  ta : Lies W W.heap.size 1 A n c (a.map sv)
  tb : Lies W W.heap.size 1 B m d (b.map sv)
theorem L2.on {w W W2 : World} {A B : Option Addr} {n c m d : Nat} {a b : List (List UInt8)} (h : L2 w W A n c a B m d b) (hb : Below W.heap.size W W2) : L2 w W2 A n c a B m d b := ⟨h.t.on hb, h.ta.on hb, h.tb.on hb⟩
theorem cell0 {W : World} {n c b o : Nat} {x : List UInt8} {r : List (List UInt8)} (h : Lies W W.heap.size 1 (some ⟨b, o, none⟩) n c ((x :: r).map sv)) : W.cell? ⟨b, o, none⟩ = some (.string ⟨x.toArray⟩) := by
  have hn := h.len
  rw [List.length_map, List.length_cons] at hn
  obtain ⟨b2, o2, e, _, hc⟩ := h.cells (by omega)
  simp only [Option.some.injEq, Addr.mk.injEq, and_true] at e
  obtain ⟨rfl, rfl⟩ := e
  exact hc 0 _ rfl
def sameTo (a b : List (List UInt8)) (i : Nat) : Bool := decide (a.length = b.length ∧ a.take i = b.take i)
theorem sameTo_next {a b : List (List UInt8)} {i : Nat} {x y : List UInt8} (h : sameTo a b i = true) (hx : a[i]? = some x) (hy : b[i]? = some y) : decide (x = y) = sameTo a b (i + 1) := by
  simp only [sameTo, decide_eq_true_eq] at h ⊢
  obtain ⟨h2, h3⟩ := h
  by_cases e : x = y
  · rw [decide_eq_true e, decide_eq_true]
    exact ⟨h2, by rw [List.take_add_one, List.take_add_one, hx, hy, h3, e]⟩
  · rw [decide_eq_false e, decide_eq_false]
    rintro ⟨_, h4⟩
    rw [List.take_add_one, List.take_add_one, hx, hy, h3] at h4
    have := List.append_cancel_left h4
    simp at this
    exact e this
theorem sameTo_end {a b : List (List UInt8)} {i n : Nat} (hn : a.length = n) (h : sameTo a b i = false ∨ i = n) : sameTo a b i = decide (a = b) := by
  rcases h with h | rfl
  · rw [h, eq_comm, decide_eq_false_iff_not]
    rintro rfl
    simp [sameTo] at h
  · unfold sameTo
    congr 1
    rw [eq_iff_iff]
    constructor
    · rintro ⟨h1, h2⟩
      rwa [List.take_of_length_le (by omega), List.take_of_length_le (by omega)] at h2
    · rintro rfl
      exact ⟨rfl, rfl⟩

set_option maxRecDepth 100000 in
set_option maxHeartbeats 4000000 in
theorem sepLaw (P : Pkg) (key : List UInt8) (a b : List (List UInt8)) (n c m d : Nat) (A B : Option Addr) (w : World) (hla : Lies w w.heap.size 1 A n c (a.map sv)) (hlb : Lies w w.heap.size 1 B m d (b.map sv)) (hk : key.length ≤ 140737488355328) (h : T2 w w) :
    Calls Tryd.prog 5 #[.string ⟨key.toArray⟩, .slice A n c, .slice B m d] w (Yes w) := by
  have Y : L2 w w A n c a B m d b := ⟨h, hla, hlb⟩
  have HS := Lib.hid (sanity_any P)
  have EA := Lib.hid (fun W (h : L2 w W A n c a B m d b) => few_any a n c A W h.ta)
  have EB := Lib.hid (fun W (h : L2 w W A n c a B m d b) => few_any b m d B W h.tb)
  have hna : a.length = n := by have := hla.len; simpa using this
  have hnb : b.length = m := by have := hlb.len; simpa using this
  have hca : c ≤ 9223372036854775807 := by have := hla.most; unfold maxLen at this; omega
  have hcb : d ≤ 9223372036854775807 := by have := hlb.most; unfold maxLen at this; omega
  have hlea := hla.le
  have hleb := hlb.le
  have hsk := sizeS key
  clear h hla hlb
  by_cases h1 : key.length ≤ 400
  · cases hfa : fewB a with
    | false =>
      rw [hfa] at EA
      clear hfa P hna hnb
      go_enter Tryd.func5, Tryd.ntmps5
      go_wp2_with (first
        | (go_at_call 9; (with_reducible refine (HS.out _ Y.t.rt).mono ?_); rintro e w1 ⟨rfl, hb⟩; replace Y := Y.on hb; clear hb)
        | (go_at_call 10; (with_reducible refine (EA.out _ Y).mono ?_); rintro e w2 ⟨rfl, rfl⟩))
      all_goals
        go_ret
        exact ⟨rfl, Y.t.bel⟩
    | true =>
      rw [hfa] at EA
      cases hfb : fewB b with
      | false =>
        rw [hfb] at EB
        clear hfa hfb P hna hnb
        go_enter Tryd.func5, Tryd.ntmps5
        go_wp2_with (first
          | (go_at_call 9; (with_reducible refine (HS.out _ Y.t.rt).mono ?_); rintro e w1 ⟨rfl, hb⟩; replace Y := Y.on hb; clear hb)
          | (go_at_call 10; (with_reducible refine (EA.out _ Y).mono ?_); rintro e w2 ⟨rfl, rfl⟩)
          | (go_at_call 10; (with_reducible refine (EB.out _ Y).mono ?_); rintro e w2 ⟨rfl, rfl⟩))
        all_goals
          go_ret
          exact ⟨rfl, Y.t.bel⟩
      | true =>
        rw [hfb] at EB
        by_cases hn0 : n = 0
        · subst hn0
          clear hfa hfb P hna hnb
          go_enter Tryd.func5, Tryd.ntmps5
          go_wp2_with (first
            | (go_at_call 9; (with_reducible refine (HS.out _ Y.t.rt).mono ?_); rintro e w1 ⟨rfl, hb⟩; replace Y := Y.on hb; clear hb)
            | (go_at_call 10; (with_reducible refine (EA.out _ Y).mono ?_); rintro e w2 ⟨rfl, rfl⟩)
            | (go_at_call 10; (with_reducible refine (EB.out _ Y).mono ?_); rintro e w2 ⟨rfl, rfl⟩))
          all_goals
            go_ret
            exact ⟨rfl, Y.t.bel⟩
        · by_cases hm0 : m = 0
          · subst hm0
            clear hfa hfb P hna hnb
            go_enter Tryd.func5, Tryd.ntmps5
            go_wp2_with (first
              | (go_at_call 9; (with_reducible refine (HS.out _ Y.t.rt).mono ?_); rintro e w1 ⟨rfl, hb⟩; replace Y := Y.on hb; clear hb)
              | (go_at_call 10; (with_reducible refine (EA.out _ Y).mono ?_); rintro e w2 ⟨rfl, rfl⟩)
              | (go_at_call 10; (with_reducible refine (EB.out _ Y).mono ?_); rintro e w2 ⟨rfl, rfl⟩))
            all_goals
              go_ret
              exact ⟨rfl, Y.t.bel⟩
          · obtain ⟨ha12, ha4⟩ := fewB_all hfa
            obtain ⟨hb12, hb4⟩ := fewB_all hfb
            obtain ⟨b1, o1, rfl⟩ : ∃ b o, A = some ⟨b, o, none⟩ := Y.ta.some_ (by omega)
            obtain ⟨b2, o2, rfl⟩ : ∃ b o, B = some ⟨b, o, none⟩ := Y.tb.some_ (by omega)
            obtain ⟨sf, hsf⟩ : ∃ sf, sf = sameTo a b := ⟨_, rfl⟩
            have HSF := Lib.hid hsf
            have HN := Lib.hid hna
            have HM := Lib.hid hnb
            have hs0 : sf 0 = decide (n = m) := by rw [hsf]; unfold sameTo; rw [hna, hnb]; simp
            obtain ⟨s1, t1, hA2⟩ := slice_from (some ⟨b1, o1, none⟩) n c 1 (by omega)
            obtain ⟨s2, t2, hB2⟩ := slice_from (some ⟨b2, o2, none⟩) m d 1 (by omega)
            have t1 : ∀ W : World, (Instr.slice 22 (.slice (some ⟨b1, o1, none⟩) n c) (some (.int .i64 1)) none none).run Tryd.prog W = .ok (.slice s1 (n - 1) (c - 1)) W := t1
            have t2 : ∀ W : World, (Instr.slice 22 (.slice (some ⟨b2, o2, none⟩) m d) (some (.int .i64 1)) none none).run Tryd.prog W = .ok (.slice s2 (m - 1) (d - 1)) W := t2
            obtain ⟨x0, xr, hxa⟩ : ∃ x r, a = x :: r := by cases a with | nil => exact absurd hna.symm hn0 | cons x r => exact ⟨x, r, rfl⟩
            obtain ⟨y0, yr, hyb⟩ : ∃ x r, b = x :: r := by cases b with | nil => exact absurd hnb.symm hm0 | cons x r => exact ⟨x, r, rfl⟩
            have hia := input_le (l := x0) (p := xr) (ha4 x0 (by rw [hxa]; exact List.mem_cons_self ..)) (by rw [hxa, List.length_cons] at ha12; omega) (fun s hs => ha4 s (by rw [hxa]; exact List.mem_cons_of_mem _ hs))
            have hib := input_le (l := y0) (p := yr) (hb4 y0 (by rw [hyb]; exact List.mem_cons_self ..)) (by rw [hyb, List.length_cons] at hb12; omega) (fun s hs => hb4 s (by rw [hyb]; exact List.mem_cons_of_mem _ hs))
            have IA := Lib.hid (fun W (h : L2 w W (some ⟨b1, o1, none⟩) n c a (some ⟨b2, o2, none⟩) m d b) => refInput_any x0 xr (n - 1) (c - 1) s1 W (by have := hA2 W _ _ h.ta; rwa [← List.map_drop, hxa] at this) (by omega))
            have IB := Lib.hid (fun W (h : L2 w W (some ⟨b1, o1, none⟩) n c a (some ⟨b2, o2, none⟩) m d b) => refInput_any y0 yr (m - 1) (d - 1) s2 W (by have := hB2 W _ _ h.tb; rwa [← List.map_drop, hyb] at this) (by omega))
            have DA := Lib.hid (fun W (h : L2 w W (some ⟨b1, o1, none⟩) n c a (some ⟨b2, o2, none⟩) m d b) => P.deriveP key x0 xr (n - 1) (c - 1) s1 W (by have := hA2 W _ _ h.ta; rwa [← List.map_drop, hxa] at this) (by omega) (by omega) h.t.rt)
            have DB := Lib.hid (fun W (h : L2 w W (some ⟨b1, o1, none⟩) n c a (some ⟨b2, o2, none⟩) m d b) => P.deriveP key y0 yr (m - 1) (d - 1) s2 W (by have := hB2 W _ _ h.tb; rwa [← List.map_drop, hyb] at this) (by omega) (by omega) h.t.rt)
            have MA := Lib.hid (fun W (h : L2 w W (some ⟨b1, o1, none⟩) n c a (some ⟨b2, o2, none⟩) m d b) => refMac_any key (input x0 xr) W (by omega) (by omega) h.t.ct)
            have MB := Lib.hid (fun W (h : L2 w W (some ⟨b1, o1, none⟩) n c a (some ⟨b2, o2, none⟩) m d b) => refMac_any key (input y0 yr) W (by omega) (by omega) h.t.ct)
            have CA := Lib.hid (fun W (h : L2 w W (some ⟨b1, o1, none⟩) n c a (some ⟨b2, o2, none⟩) m d b) => cell0 (x := x0) (r := xr) (by have := h.ta; rwa [hxa] at this))
            have CB := Lib.hid (fun W (h : L2 w W (some ⟨b1, o1, none⟩) n c a (some ⟨b2, o2, none⟩) m d b) => cell0 (x := y0) (r := yr) (by have := h.tb; rwa [hyb] at this))
            have HXY : Hid (decide (a = b) = decide (input x0 xr = input y0 yr)) := Lib.hid (by
              congr 1
              rw [eq_iff_iff]
              constructor
              · intro e
                rw [hxa, hyb] at e
                simp only [List.cons.injEq] at e
                rw [e.1, e.2]
              · intro e
                rw [hxa, hyb]
                exact input_inj (fun s hs => ha4 s (by rw [hxa]; exact hs)) (fun s hs => hb4 s (by rw [hyb]; exact hs)) e)
            have HDE : Hid (input x0 xr = input y0 yr → derive key x0 xr = derive key y0 yr) := Lib.hid (fun h => congrArg (mac key) h)
            have q1 := eqS (input x0 xr) (input y0 yr)
            have q2 := eqS (derive key x0 xr) (derive key y0 yr)
            rw [show mac key (input x0 xr) = derive key x0 xr from rfl] at MA
            rw [show mac key (input y0 yr) = derive key y0 yr from rfl] at MB
            generalize input x0 xr = X at IA MA HXY HDE q1
            generalize input y0 yr = Z at IB MB HXY HDE q1
            generalize derive key x0 xr = D at DA MA HDE q2
            generalize derive key y0 yr = E at DB MB HDE q2
            have z0 : ¬ (n : Int) = 0 := by omega
            have z1 : ¬ (m : Int) = 0 := by omega
            clear hfa hfb P hna hnb ha12 hb12 ha4 hb4 hxa hyb hsf hia hib hA2 hB2
            by_cases hnm : (n : Int) = (m : Int)
            all_goals
              try have e2 : ((n : Int) == (m : Int)) = true := by simpa using hnm
              try have e2 : ((n : Int) == (m : Int)) = false := by simpa using hnm
              have HS0 : Hid (sf 0 = ((n : Int) == (m : Int))) := Lib.hid (by rw [hs0, Bool.eq_iff_iff]; simp only [decide_eq_true_eq, beq_iff_eq]; omega)
              rw [e2] at HS0
              clear hnm hs0
              go_enter Tryd.func5, Tryd.ntmps5
              go_wp2_with (first
                | (go_at_call 9; (with_reducible refine (HS.out _ Y.t.rt).mono ?_); rintro e w1 ⟨rfl, hb⟩; replace Y := Y.on hb; clear hb)
                | (go_at_call 10; (with_reducible refine (EA.out _ Y).mono ?_); rintro e w2 ⟨rfl, rfl⟩)
                | (go_at_call 10; (with_reducible refine (EB.out _ Y).mono ?_); rintro e w2 ⟨rfl, rfl⟩))
              (go_ret; exact ⟨rfl, Y.t.bel⟩)
              clear EA EB e2
              go_loopw [8, 9] (fun bv_ iv wr => ∃ (i : Nat), i ≤ n ∧ iv = .int .i64 (i : Int) ∧ bv_ = .bool (sf i) ∧ L2 w wr (some ⟨b1, o1, none⟩) n c a (some ⟨b2, o2, none⟩) m d b) (fun _ iv _ => n - (intOf iv).toNat)
              case atStart => exact ⟨0, by omega, rfl, by rw [HS0.out], Y⟩
              case round =>
                clear Y
                obtain ⟨i, hin0, rfl, rfl, hq⟩ := hrel
                by_cases hgo : sf i = true ∧ i < n
                · obtain ⟨hsi, hin⟩ := hgo
                  have HSI := Lib.hid hsi
                  obtain ⟨h4, h5⟩ : a.length = b.length ∧ a.take i = b.take i := by have := hsi; rw [HSF.out] at this; simpa only [sameTo, decide_eq_true_eq] using this
                  have him : i < m := by have := HN.out; have := HM.out; omega
                  obtain ⟨b3, o3, v1, he1, hbw1, hv1, hcx⟩ := hq.ta.at_ hin
                  obtain ⟨b4, o4, v2, he2, hbw2, hv2, hcy⟩ := hq.tb.at_ him
                  simp only [Option.some.injEq, Addr.mk.injEq, and_true] at he1 he2
                  obtain ⟨rfl, rfl⟩ := he1
                  obtain ⟨rfl, rfl⟩ := he2
                  obtain ⟨x, hx⟩ : ∃ x, a[i]? = some x := ⟨_, List.getElem?_eq_getElem (by rw [HN.out]; exact hin)⟩
                  obtain ⟨y, hy⟩ : ∃ y, b[i]? = some y := ⟨_, List.getElem?_eq_getElem (by rw [HM.out]; exact him)⟩
                  rw [List.getElem?_map, hx] at hv1
                  rw [List.getElem?_map, hy] at hv2
                  cases hv1
                  cases hv2
                  have hnx := sameTo_next (show sameTo a b i = true by rw [← HSF.out]; exact hsi) hx hy
                  rw [← HSF.out] at hnx
                  have HBE : Hid ((x == y) = sf (i + 1)) := Lib.hid (by rw [← hnx, Bool.eq_iff_iff]; simp)
                  have HQ := Lib.hid hq
                  unfold sv at hcx hcy
                  rw [hsi]
                  have i0 : (0 : Int) ≤ (i : Int) := by omega
                  have y1 : (i : Int) < (n : Int) := by omega
                  have y2 : (i : Int) < (m : Int) := by omega
                  clear hnx hx hy h4 h5 hq hsi
                  go_wp2
                  go_quiet (fail)
                  go_wp2
                  go_roundw
                  case rel => exact ⟨i + 1, by omega, by go_num, congrArg Value.bool HBE.out, HQ.out.on (Wire.bd wr nq)⟩
                  case measure => simp [intOf]; omega
                · have hse : sf i = decide (X = Z) := by
                    rw [HSF.out, ← HXY.out]
                    exact sameTo_end HN.out (by
                      rcases Bool.eq_false_or_eq_true (sameTo a b i) with h | h
                      · right
                        exact Nat.le_antisymm hin0 (Nat.not_lt.1 (fun hlt => hgo ⟨by rw [HSF.out]; exact h, hlt⟩))
                      · exact .inl h)
                  have i0 : (0 : Int) ≤ (i : Int) := by omega
                  have y5 : (0 : Int) < (n : Int) := by omega
                  have y6 : (0 : Int) < (m : Int) := by omega
                  cases hsi : sf i with
                  | true =>
                    have hlt : ¬ (i : Int) < (n : Int) := fun h => hgo ⟨hsi, by omega⟩
                    have hXZ : X = Z := by rw [hsi] at hse; simpa using hse.symm
                    have hneq : (X == Z) = true := by simpa using hXZ
                    have hDE : D = E := HDE.out hXZ
                    subst hXZ hDE
                    clear hgo hse q1 q2 HDE
                    rw [hsi] at *
                    clear hsi hneq
                    have q1 := eqT X
                    have q2 := eqT D
                    go_wp2
                    refine QTail.whole (fun W => L2 w W (some ⟨b1, o1, none⟩) n c a (some ⟨b2, o2, none⟩) m d b) (by kernel_rfl) (by kernel_rfl) (hq.on (Wire.bd _ 1)) ?_
                    clear hq
                    (refine wpQuiet_step (fun K hK => ?_); go_simp; (first | refine hK _ ?_ | refine ⟨_, fun _ _ => rfl, hK _ ?_⟩); clear hK K)
                    (refine wpQuiet_step (fun K hK => ?_); go_simp; refine ⟨.pointer (some ⟨b1, o1, none⟩), fun W hW => ?_, hK _ ?_⟩; (first | (rw [if_pos (by omega)]; exact ⟨rfl, rfl⟩) | (rw [if_pos (by omega)]; rfl) | exact ⟨rfl, rfl⟩ | rfl); clear hK K)
                    (refine wpQuiet_step (fun K hK => ?_); go_simp; refine ⟨.string ⟨x0.toArray⟩, fun W hW => ?_, hK _ ?_⟩; (first | (rw [CA.out W hW]; exact ⟨rfl, rfl⟩) | (rw [CA.out W hW]; rfl) | exact ⟨rfl, rfl⟩ | rfl); clear hK K)
                    (refine wpQuiet_step (fun K hK => ?_); go_simp; (first | refine hK _ ?_ | refine ⟨_, fun _ _ => rfl, hK _ ?_⟩); clear hK K)
                    (refine wpQuiet_step (fun K hK => ?_); go_simp; refine ⟨.slice s1 (n - 1) (c - 1), fun W hW => ?_, hK _ ?_⟩; (first | (rw [t1 W]; exact ⟨rfl, rfl⟩) | (rw [t1 W]; rfl) | exact ⟨rfl, rfl⟩ | rfl); clear hK K)
                    (refine wpQuiet_step (fun K hK => ?_); go_simp; refine ⟨_, fun W hW => (IA.out W hW).mono fun e w' ⟨he, hb⟩ => ⟨he, hW.on hb⟩, hK _ ?_⟩; clear hK K)
                    (refine wpQuiet_step (fun K hK => ?_); go_simp; (first | refine hK _ ?_ | refine ⟨_, fun _ _ => rfl, hK _ ?_⟩); clear hK K)
                    refine wpQuiet_nil ?_
                    intro w3 hq
                    go_wp2
                    refine QTail.whole (fun W => L2 w W (some ⟨b1, o1, none⟩) n c a (some ⟨b2, o2, none⟩) m d b) (by kernel_rfl) (by kernel_rfl) (hq.on (Wire.bd _ 1)) ?_
                    clear hq
                    (refine wpQuiet_step (fun K hK => ?_); go_simp; (first | refine hK _ ?_ | refine ⟨_, fun _ _ => rfl, hK _ ?_⟩); clear hK K)
                    (refine wpQuiet_step (fun K hK => ?_); go_simp; refine ⟨.pointer (some ⟨b2, o2, none⟩), fun W hW => ?_, hK _ ?_⟩; (first | (rw [if_pos (by omega)]; exact ⟨rfl, rfl⟩) | (rw [if_pos (by omega)]; rfl) | exact ⟨rfl, rfl⟩ | rfl); clear hK K)
                    (refine wpQuiet_step (fun K hK => ?_); go_simp; refine ⟨.string ⟨y0.toArray⟩, fun W hW => ?_, hK _ ?_⟩; (first | (rw [CB.out W hW]; exact ⟨rfl, rfl⟩) | (rw [CB.out W hW]; rfl) | exact ⟨rfl, rfl⟩ | rfl); clear hK K)
                    (refine wpQuiet_step (fun K hK => ?_); go_simp; (first | refine hK _ ?_ | refine ⟨_, fun _ _ => rfl, hK _ ?_⟩); clear hK K)
                    (refine wpQuiet_step (fun K hK => ?_); go_simp; refine ⟨.slice s2 (m - 1) (d - 1), fun W hW => ?_, hK _ ?_⟩; (first | (rw [t2 W]; exact ⟨rfl, rfl⟩) | (rw [t2 W]; rfl) | exact ⟨rfl, rfl⟩ | rfl); clear hK K)
                    (refine wpQuiet_step (fun K hK => ?_); go_simp; refine ⟨_, fun W hW => (IB.out W hW).mono fun e w' ⟨he, hb⟩ => ⟨he, hW.on hb⟩, hK _ ?_⟩; clear hK K)
                    (refine wpQuiet_step (fun K hK => ?_); go_simp; (first | refine hK _ ?_ | refine ⟨_, fun _ _ => rfl, hK _ ?_⟩); clear hK K)
                    refine wpQuiet_nil ?_
                    intro w4 hq
                    go_wp2
                    refine QTail.whole (fun W => L2 w W (some ⟨b1, o1, none⟩) n c a (some ⟨b2, o2, none⟩) m d b) (by kernel_rfl) (by kernel_rfl) (hq.on (Wire.bd _ 1)) ?_
                    clear hq
                    (refine wpQuiet_step (fun K hK => ?_); go_simp; (first | refine hK _ ?_ | refine ⟨_, fun _ _ => rfl, hK _ ?_⟩); clear hK K)
                    (refine wpQuiet_step (fun K hK => ?_); go_simp; (first | refine hK _ ?_ | refine ⟨_, fun _ _ => rfl, hK _ ?_⟩); clear hK K)
                    (refine wpQuiet_step (fun K hK => ?_); go_simp; refine ⟨.pointer (some ⟨b1, o1, none⟩), fun W hW => ?_, hK _ ?_⟩; (first | (rw [if_pos (by omega)]; exact ⟨rfl, rfl⟩) | (rw [if_pos (by omega)]; rfl) | exact ⟨rfl, rfl⟩ | rfl); clear hK K)
                    (refine wpQuiet_step (fun K hK => ?_); go_simp; refine ⟨.string ⟨x0.toArray⟩, fun W hW => ?_, hK _ ?_⟩; (first | (rw [CA.out W hW]; exact ⟨rfl, rfl⟩) | (rw [CA.out W hW]; rfl) | exact ⟨rfl, rfl⟩ | rfl); clear hK K)
                    (refine wpQuiet_step (fun K hK => ?_); go_simp; (first | refine hK _ ?_ | refine ⟨_, fun _ _ => rfl, hK _ ?_⟩); clear hK K)
                    (refine wpQuiet_step (fun K hK => ?_); go_simp; refine ⟨.slice s1 (n - 1) (c - 1), fun W hW => ?_, hK _ ?_⟩; (first | (rw [t1 W]; exact ⟨rfl, rfl⟩) | (rw [t1 W]; rfl) | exact ⟨rfl, rfl⟩ | rfl); clear hK K)
                    (refine wpQuiet_step (fun K hK => ?_); go_simp; refine ⟨_, fun W hW => (DA.out W hW).mono fun e w' ⟨he, hb⟩ => ⟨he, hW.on hb⟩, hK _ ?_⟩; clear hK K)
                    (refine wpQuiet_step (fun K hK => ?_); go_simp; (first | refine hK _ ?_ | refine ⟨_, fun _ _ => rfl, hK _ ?_⟩); clear hK K)
                    refine wpQuiet_nil ?_
                    intro w5 hq
                    go_wp2
                    refine QTail.whole (fun W => L2 w W (some ⟨b1, o1, none⟩) n c a (some ⟨b2, o2, none⟩) m d b) (by kernel_rfl) (by kernel_rfl) (hq.on (Wire.bd _ 1)) ?_
                    clear hq
                    (refine wpQuiet_step (fun K hK => ?_); go_simp; (first | refine hK _ ?_ | refine ⟨_, fun _ _ => rfl, hK _ ?_⟩); clear hK K)
                    (refine wpQuiet_step (fun K hK => ?_); go_simp; (first | refine hK _ ?_ | refine ⟨_, fun _ _ => rfl, hK _ ?_⟩); clear hK K)
                    (refine wpQuiet_step (fun K hK => ?_); go_simp; refine ⟨.pointer (some ⟨b2, o2, none⟩), fun W hW => ?_, hK _ ?_⟩; (first | (rw [if_pos (by omega)]; exact ⟨rfl, rfl⟩) | (rw [if_pos (by omega)]; rfl) | exact ⟨rfl, rfl⟩ | rfl); clear hK K)
                    (refine wpQuiet_step (fun K hK => ?_); go_simp; refine ⟨.string ⟨y0.toArray⟩, fun W hW => ?_, hK _ ?_⟩; (first | (rw [CB.out W hW]; exact ⟨rfl, rfl⟩) | (rw [CB.out W hW]; rfl) | exact ⟨rfl, rfl⟩ | rfl); clear hK K)
                    (refine wpQuiet_step (fun K hK => ?_); go_simp; (first | refine hK _ ?_ | refine ⟨_, fun _ _ => rfl, hK _ ?_⟩); clear hK K)
                    (refine wpQuiet_step (fun K hK => ?_); go_simp; refine ⟨.slice s2 (m - 1) (d - 1), fun W hW => ?_, hK _ ?_⟩; (first | (rw [t2 W]; exact ⟨rfl, rfl⟩) | (rw [t2 W]; rfl) | exact ⟨rfl, rfl⟩ | rfl); clear hK K)
                    (refine wpQuiet_step (fun K hK => ?_); go_simp; refine ⟨_, fun W hW => (DB.out W hW).mono fun e w' ⟨he, hb⟩ => ⟨he, hW.on hb⟩, hK _ ?_⟩; clear hK K)
                    (refine wpQuiet_step (fun K hK => ?_); go_simp; (first | refine hK _ ?_ | refine ⟨_, fun _ _ => rfl, hK _ ?_⟩); clear hK K)
                    refine wpQuiet_nil ?_
                    intro w6 hq
                    go_wp2_with (first | (go_at_call 16; (with_reducible refine (MA.out _ hq).mono ?_); rintro e w7 ⟨rfl, hb⟩; replace hq := hq.on hb; clear hb) | (go_at_call 16; (with_reducible refine (MB.out _ hq).mono ?_); rintro e w8 ⟨rfl, hb⟩; replace hq := hq.on hb; clear hb))
                    all_goals
                      go_ret
                      refine ⟨congrArg (fun b => Ending.returned (Value.bool b)) ?_, hq.t.bel⟩
                      first | rfl | (simp; done) | (have := HNE.out; simp_all; done) | (simp_all; done)
                  | false =>
                    have HNE : Hid (¬ X = Z) := Lib.hid (by rw [hsi] at hse; simpa using hse.symm)
                    have q1 := eqF HNE.out
                    clear hgo hse
                    by_cases hlt : (i : Int) < (n : Int)
                    all_goals
                      go_wp2
                      refine QTail.whole (fun W => L2 w W (some ⟨b1, o1, none⟩) n c a (some ⟨b2, o2, none⟩) m d b) (by kernel_rfl) (by kernel_rfl) (hq.on (Wire.bd _ 1)) ?_
                      clear hq
                      (refine wpQuiet_step (fun K hK => ?_); go_simp; (first | refine hK _ ?_ | refine ⟨_, fun _ _ => rfl, hK _ ?_⟩); clear hK K)
                      (refine wpQuiet_step (fun K hK => ?_); go_simp; refine ⟨.pointer (some ⟨b1, o1, none⟩), fun W hW => ?_, hK _ ?_⟩; (first | (rw [if_pos (by omega)]; exact ⟨rfl, rfl⟩) | (rw [if_pos (by omega)]; rfl) | exact ⟨rfl, rfl⟩ | rfl); clear hK K)
                      (refine wpQuiet_step (fun K hK => ?_); go_simp; refine ⟨.string ⟨x0.toArray⟩, fun W hW => ?_, hK _ ?_⟩; (first | (rw [CA.out W hW]; exact ⟨rfl, rfl⟩) | (rw [CA.out W hW]; rfl) | exact ⟨rfl, rfl⟩ | rfl); clear hK K)
                      (refine wpQuiet_step (fun K hK => ?_); go_simp; (first | refine hK _ ?_ | refine ⟨_, fun _ _ => rfl, hK _ ?_⟩); clear hK K)
                      (refine wpQuiet_step (fun K hK => ?_); go_simp; refine ⟨.slice s1 (n - 1) (c - 1), fun W hW => ?_, hK _ ?_⟩; (first | (rw [t1 W]; exact ⟨rfl, rfl⟩) | (rw [t1 W]; rfl) | exact ⟨rfl, rfl⟩ | rfl); clear hK K)
                      (refine wpQuiet_step (fun K hK => ?_); go_simp; refine ⟨_, fun W hW => (IA.out W hW).mono fun e w' ⟨he, hb⟩ => ⟨he, hW.on hb⟩, hK _ ?_⟩; clear hK K)
                      (refine wpQuiet_step (fun K hK => ?_); go_simp; (first | refine hK _ ?_ | refine ⟨_, fun _ _ => rfl, hK _ ?_⟩); clear hK K)
                      refine wpQuiet_nil ?_
                      intro w3 hq
                      go_wp2
                      refine QTail.whole (fun W => L2 w W (some ⟨b1, o1, none⟩) n c a (some ⟨b2, o2, none⟩) m d b) (by kernel_rfl) (by kernel_rfl) (hq.on (Wire.bd _ 1)) ?_
                      clear hq
                      (refine wpQuiet_step (fun K hK => ?_); go_simp; (first | refine hK _ ?_ | refine ⟨_, fun _ _ => rfl, hK _ ?_⟩); clear hK K)
                      (refine wpQuiet_step (fun K hK => ?_); go_simp; refine ⟨.pointer (some ⟨b2, o2, none⟩), fun W hW => ?_, hK _ ?_⟩; (first | (rw [if_pos (by omega)]; exact ⟨rfl, rfl⟩) | (rw [if_pos (by omega)]; rfl) | exact ⟨rfl, rfl⟩ | rfl); clear hK K)
                      (refine wpQuiet_step (fun K hK => ?_); go_simp; refine ⟨.string ⟨y0.toArray⟩, fun W hW => ?_, hK _ ?_⟩; (first | (rw [CB.out W hW]; exact ⟨rfl, rfl⟩) | (rw [CB.out W hW]; rfl) | exact ⟨rfl, rfl⟩ | rfl); clear hK K)
                      (refine wpQuiet_step (fun K hK => ?_); go_simp; (first | refine hK _ ?_ | refine ⟨_, fun _ _ => rfl, hK _ ?_⟩); clear hK K)
                      (refine wpQuiet_step (fun K hK => ?_); go_simp; refine ⟨.slice s2 (m - 1) (d - 1), fun W hW => ?_, hK _ ?_⟩; (first | (rw [t2 W]; exact ⟨rfl, rfl⟩) | (rw [t2 W]; rfl) | exact ⟨rfl, rfl⟩ | rfl); clear hK K)
                      (refine wpQuiet_step (fun K hK => ?_); go_simp; refine ⟨_, fun W hW => (IB.out W hW).mono fun e w' ⟨he, hb⟩ => ⟨he, hW.on hb⟩, hK _ ?_⟩; clear hK K)
                      (refine wpQuiet_step (fun K hK => ?_); go_simp; (first | refine hK _ ?_ | refine ⟨_, fun _ _ => rfl, hK _ ?_⟩); clear hK K)
                      refine wpQuiet_nil ?_
                      intro w4 hq
                      go_wp2
                      refine QTail.whole (fun W => L2 w W (some ⟨b1, o1, none⟩) n c a (some ⟨b2, o2, none⟩) m d b) (by kernel_rfl) (by kernel_rfl) (hq.on (Wire.bd _ 1)) ?_
                      clear hq
                      (refine wpQuiet_step (fun K hK => ?_); go_simp; (first | refine hK _ ?_ | refine ⟨_, fun _ _ => rfl, hK _ ?_⟩); clear hK K)
                      (refine wpQuiet_step (fun K hK => ?_); go_simp; (first | refine hK _ ?_ | refine ⟨_, fun _ _ => rfl, hK _ ?_⟩); clear hK K)
                      (refine wpQuiet_step (fun K hK => ?_); go_simp; refine ⟨.pointer (some ⟨b1, o1, none⟩), fun W hW => ?_, hK _ ?_⟩; (first | (rw [if_pos (by omega)]; exact ⟨rfl, rfl⟩) | (rw [if_pos (by omega)]; rfl) | exact ⟨rfl, rfl⟩ | rfl); clear hK K)
                      (refine wpQuiet_step (fun K hK => ?_); go_simp; refine ⟨.string ⟨x0.toArray⟩, fun W hW => ?_, hK _ ?_⟩; (first | (rw [CA.out W hW]; exact ⟨rfl, rfl⟩) | (rw [CA.out W hW]; rfl) | exact ⟨rfl, rfl⟩ | rfl); clear hK K)
                      (refine wpQuiet_step (fun K hK => ?_); go_simp; (first | refine hK _ ?_ | refine ⟨_, fun _ _ => rfl, hK _ ?_⟩); clear hK K)
                      (refine wpQuiet_step (fun K hK => ?_); go_simp; refine ⟨.slice s1 (n - 1) (c - 1), fun W hW => ?_, hK _ ?_⟩; (first | (rw [t1 W]; exact ⟨rfl, rfl⟩) | (rw [t1 W]; rfl) | exact ⟨rfl, rfl⟩ | rfl); clear hK K)
                      (refine wpQuiet_step (fun K hK => ?_); go_simp; refine ⟨_, fun W hW => (DA.out W hW).mono fun e w' ⟨he, hb⟩ => ⟨he, hW.on hb⟩, hK _ ?_⟩; clear hK K)
                      (refine wpQuiet_step (fun K hK => ?_); go_simp; (first | refine hK _ ?_ | refine ⟨_, fun _ _ => rfl, hK _ ?_⟩); clear hK K)
                      refine wpQuiet_nil ?_
                      intro w5 hq
                      go_wp2
                      refine QTail.whole (fun W => L2 w W (some ⟨b1, o1, none⟩) n c a (some ⟨b2, o2, none⟩) m d b) (by kernel_rfl) (by kernel_rfl) (hq.on (Wire.bd _ 1)) ?_
                      clear hq
                      (refine wpQuiet_step (fun K hK => ?_); go_simp; (first | refine hK _ ?_ | refine ⟨_, fun _ _ => rfl, hK _ ?_⟩); clear hK K)
                      (refine wpQuiet_step (fun K hK => ?_); go_simp; (first | refine hK _ ?_ | refine ⟨_, fun _ _ => rfl, hK _ ?_⟩); clear hK K)
                      (refine wpQuiet_step (fun K hK => ?_); go_simp; refine ⟨.pointer (some ⟨b2, o2, none⟩), fun W hW => ?_, hK _ ?_⟩; (first | (rw [if_pos (by omega)]; exact ⟨rfl, rfl⟩) | (rw [if_pos (by omega)]; rfl) | exact ⟨rfl, rfl⟩ | rfl); clear hK K)
                      (refine wpQuiet_step (fun K hK => ?_); go_simp; refine ⟨.string ⟨y0.toArray⟩, fun W hW => ?_, hK _ ?_⟩; (first | (rw [CB.out W hW]; exact ⟨rfl, rfl⟩) | (rw [CB.out W hW]; rfl) | exact ⟨rfl, rfl⟩ | rfl); clear hK K)
                      (refine wpQuiet_step (fun K hK => ?_); go_simp; (first | refine hK _ ?_ | refine ⟨_, fun _ _ => rfl, hK _ ?_⟩); clear hK K)
                      (refine wpQuiet_step (fun K hK => ?_); go_simp; refine ⟨.slice s2 (m - 1) (d - 1), fun W hW => ?_, hK _ ?_⟩; (first | (rw [t2 W]; exact ⟨rfl, rfl⟩) | (rw [t2 W]; rfl) | exact ⟨rfl, rfl⟩ | rfl); clear hK K)
                      (refine wpQuiet_step (fun K hK => ?_); go_simp; refine ⟨_, fun W hW => (DB.out W hW).mono fun e w' ⟨he, hb⟩ => ⟨he, hW.on hb⟩, hK _ ?_⟩; clear hK K)
                      (refine wpQuiet_step (fun K hK => ?_); go_simp; (first | refine hK _ ?_ | refine ⟨_, fun _ _ => rfl, hK _ ?_⟩); clear hK K)
                      refine wpQuiet_nil ?_
                      intro w6 hq
                      go_wp2_with (first | (go_at_call 16; (with_reducible refine (MA.out _ hq).mono ?_); rintro e w7 ⟨rfl, hb⟩; replace hq := hq.on hb; clear hb) | (go_at_call 16; (with_reducible refine (MB.out _ hq).mono ?_); rintro e w8 ⟨rfl, hb⟩; replace hq := hq.on hb; clear hb))
                      all_goals
                        go_ret
                        refine ⟨congrArg (fun b => Ending.returned (Value.bool b)) ?_, hq.t.bel⟩
                        first | rfl | (simp; done) | (have := HNE.out; simp_all; done) | (simp_all; done)
  · clear P EA EB hna hnb
    go_enter Tryd.func5, Tryd.ntmps5
    go_wp2_with (first
      | (go_at_call 9; (with_reducible refine (HS.out _ Y.t.rt).mono ?_); rintro e w1 ⟨rfl, hb⟩; replace Y := Y.on hb; clear hb))
    all_goals
      go_ret
      exact ⟨rfl, Y.t.bel⟩

end Kdf
end Go.Proofs.YtoenkckoomfgeaaDoor
