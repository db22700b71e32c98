/- collides walked: where it answers no, different texts of the row have hashes that begin differently. Conditions: the row is one's own, the tables are laid. -/
import Derived.Test.YthpkeaafgabjiaaDoorM11
import Derived.Test.YthpkeaafgabjiaaDoorM18
import Derived.Test.YthpkeaafgabjiaaDoorM30
import Derived.Test.YthpkeaafgabjiaaDoorM5
namespace Go.Proofs.YthpkeaafgabjiaaDoor
open Go.RowKit
namespace Mk
open Wire (bv sv Lies)
open Hash (bcj GivesT)

/-- No two of the first i texts clash. -/
def Apart (l : List (List UInt8)) (i : Nat) : Prop := ∀ a b x y, a < i → b < a → l[a]? = some x → l[b]? = some y → HH.sh x = HH.sh y → x = y
theorem apart_all {l : List (List UInt8)} (h : Apart l l.length) : NoClash HH l := by
  intro x hx y hy e
  obtain ⟨a, ha⟩ := List.getElem?_of_mem hx
  obtain ⟨b, hb⟩ := List.getElem?_of_mem hy
  have hal := (List.getElem?_eq_some_iff.1 ha).1
  have hbl := (List.getElem?_eq_some_iff.1 hb).1
  rcases Nat.lt_trichotomy b a with h1 | h1 | h1
  · exact h a b x y hal h1 ha hb e
  · subst h1
    rw [ha] at hb
    exact Option.some.inj hb
  · exact (h b a y x hbl h1 hb ha e.symm).symm
/-- What it answers. -/
def GivesNo (l : List (List UInt8)) (w : World) (e : Ending) (w' : World) : Prop := ∃ b, GivesT b w e w' ∧ (b = false → NoClash HH l)

set_option maxRecDepth 100000 in
set_option maxHeartbeats 4000000 in
theorem collides_any (l : List (List UInt8)) (n c base : Nat) (A : Option Addr) (w : World) (hl : OwnT w base (.slice A n c) n l) (ht : TP w) (hn : n ≤ 1000000) :
    Calls Tryd.prog 27 #[.slice A n c] w (GivesNo l w) := by
  have Z := Below.refl w.heap.size w
  have HL := Lib.hid hl
  have HN := Lib.hid hn
  have hln := hl.len
  have HLN := Lib.hid hln
  have HS : Hid (∀ W (x : List UInt8) g k, Below w.heap.size w W → Lies w w.heap.size 1 (some ⟨g, 0, none⟩) x.length k (x.map bv) → Calls Tryd.prog 24 #[.slice (some ⟨g, 0, none⟩) x.length k] W (Hash.GivesA ((HH.sh x).map bv) W)) := Lib.hid (fun W x g k hz hx => Hash.lawShort_any x x.length k _ W ((hx.below hz).more hz.size) ((ht.on hz).a))
  have z0 : (n : Int) ≤ 1000000 := by omega
  clear hl ht hln hn
  go_enter Tryd.func27, Tryd.ntmps27
  go_wp2
  go_loopw [3] (fun iv wr => ∃ (i : Nat), i ≤ n ∧ iv = .int .i64 (i : Int) ∧ Hid (Apart l i) ∧ Below w.heap.size w wr) (fun iv _ => ((n : Int) - intOf iv).toNat)
  case atStart => exact ⟨0, Nat.zero_le _, rfl, Lib.hid (fun a b x y h => absurd h (Nat.not_lt_zero _)), Z⟩
  case round =>
    clear Z
    obtain ⟨i, hi, rfl, HA, Z⟩ := hrel
    by_cases hlt : i < n
    · have HIN := Lib.hid hlt
      obtain ⟨x, hx⟩ : ∃ x, l[i]? = some x := ⟨_, List.getElem?_eq_getElem (by rw [HLN.out]; exact hlt)⟩
      have HX := Lib.hid hx
      have z3 : (i : Int) < (n : Int) := by omega
      have z4 : (0 : Int) ≤ (i : Int) := by omega
      clear hi hlt hx
      go_wp2
      go_loopw [4] (fun iv wr => ∃ (k : Nat), k ≤ i ∧ iv = .int .i64 (k : Int) ∧ Hid (∀ b y, b < k → l[b]? = some y → HH.sh x = HH.sh y → x = y) ∧ Below w.heap.size w wr) (fun iv _ => ((i : Int) - intOf iv).toNat)
      case atStart => exact ⟨0, Nat.zero_le _, rfl, Lib.hid (fun b y h => absurd h (Nat.not_lt_zero _)), Z⟩
      case round =>
        clear Z
        obtain ⟨k, hk, rfl, HB, Z⟩ := hrel
        by_cases hlt2 : k < i
        · obtain ⟨y, hy⟩ : ∃ y, l[k]? = some y := ⟨_, List.getElem?_eq_getElem (by rw [HLN.out]; exact Nat.lt_trans hlt2 HIN.out)⟩
          have HY := Lib.hid hy
          obtain ⟨g, cc, g1, c1, e, hg, _, hc1, _, hg1, hl1⟩ := HL.out.at_ HX.out
          obtain ⟨g', cc', g2, c2, e', hg', _, hc2, _, hg2, hl2⟩ := HL.out.at_ hy
          cases e
          simp only [Value.slice.injEq, Option.some.injEq, Addr.mk.injEq, and_true, true_and] at e'
          obtain ⟨rfl, rfl⟩ := e'
          have HC1 : Hid (∀ W, Below w.heap.size w W → W.cell? ⟨g, i, none⟩ = some (.slice (some ⟨g1, 0, none⟩) x.length c1)) := Lib.hid (fun W h => (h.cell (p := ⟨g, i, none⟩) hg).trans hc1)
          have HC2 : Hid (∀ W, Below w.heap.size w W → W.cell? ⟨g, k, none⟩ = some (.slice (some ⟨g2, 0, none⟩) y.length c2)) := Lib.hid (fun W h => (h.cell (p := ⟨g, k, none⟩) hg).trans hc2)
          have HV1 : Hid (∀ W, Below w.heap.size w W → (convert 38 9 (.slice (some ⟨g1, 0, none⟩) x.length c1)).run Tryd.prog W = .ok (.string ⟨x.toArray⟩) W) := Lib.hid (fun W h => Hash.convL ((hl1.below h).more h.size))
          have HV2 : Hid (∀ W, Below w.heap.size w W → (convert 38 9 (.slice (some ⟨g2, 0, none⟩) y.length c2)).run Tryd.prog W = .ok (.string ⟨y.toArray⟩) W) := Lib.hid (fun W h => Hash.convL ((hl2.below h).more h.size))
          obtain ⟨P, hP⟩ : ∃ P, P = HH.sh x := ⟨_, rfl⟩
          obtain ⟨R, hR⟩ : ∃ R, R = HH.sh y := ⟨_, rfl⟩
          have HS1 : Hid (∀ W, Below w.heap.size w W → Calls Tryd.prog 24 #[.slice (some ⟨g1, 0, none⟩) x.length c1] W (Hash.GivesA (P.map bv) W)) := Lib.hid (fun W h => by rw [hP]; exact HS.out W x g1 c1 h hl1)
          have HS2 : Hid (∀ W, Below w.heap.size w W → Calls Tryd.prog 24 #[.slice (some ⟨g2, 0, none⟩) y.length c2] W (Hash.GivesA (R.map bv) W)) := Lib.hid (fun W h => by rw [hR]; exact HS.out W y g2 c2 h hl2)
          have E1 := Lib.hid (fun W => eql_d P R (by rw [hP]; exact sh_length _) (by rw [hR]; exact sh_length _) W)
          have HP := Lib.hid hP
          have HR := Lib.hid hR
          have HK2 := Lib.hid hlt2
          have z5 : (k : Int) < (i : Int) := by omega
          have z6 : (0 : Int) ≤ (k : Int) := by omega
          have z7 : (k : Int) < (n : Int) := by omega
          have z8 : i < n := HIN.out
          have z9 : k < n := by omega
          clear hy hc1 hc2 hg hg' hg1 hg2 hl1 hl2 hP hR hk hlt2
          by_cases hxy : x = y
          · have HB2 : Hid (∀ b u, b < k + 1 → l[b]? = some u → HH.sh x = HH.sh u → x = u) := Lib.hid (fun b u hb hu hs => by
              rcases Nat.lt_or_ge b k with h | h
              · exact HB.out b u h hu hs
              · obtain rfl : b = k := by omega
                rw [HY.out] at hu
                exact hxy.trans (Option.some.inj hu))
            subst hxy
            go_wp2
            refine QTail.whole (fun W => Below w.heap.size w W) (by kernel_rfl) (by kernel_rfl) (bcj Z (Hash.belowD _)) ?_
            (refine wpQuiet_step (fun K hK => ?_); go_simp; (first | refine hK _ ?_ | refine ⟨_, fun _ _ => rfl, hK _ ?_⟩); clear hK K)
            (refine wpQuiet_step (fun K hK => ?_); go_simp; (first | refine hK _ ?_ | refine ⟨_, fun _ _ => rfl, hK _ ?_⟩); clear hK K)
            (refine wpQuiet_step (fun K hK => ?_); go_simp; refine ⟨.pointer (some ⟨g, i, none⟩), fun W hW => ?_, hK _ ?_⟩; (first | (rw [if_pos (by omega)]; exact ⟨rfl, rfl⟩) | (rw [if_pos (by omega)]; rfl) | exact ⟨rfl, rfl⟩ | rfl); clear hK K)
            (refine wpQuiet_step (fun K hK => ?_); go_simp; refine ⟨(.slice (some ⟨g1, 0, none⟩) x.length c1), fun W hW => ?_, hK _ ?_⟩; (first | (rw [HC1.out W hW]; exact ⟨rfl, rfl⟩) | (rw [HC1.out W hW]; rfl)); clear hK K)
            (refine wpQuiet_step (fun K hK => ?_); go_simp; refine ⟨(.string ⟨x.toArray⟩), fun W hW => ?_, hK _ ?_⟩; (first | (rw [HV1.out W hW]; exact ⟨rfl, rfl⟩) | (rw [HV1.out W hW]; rfl)); clear hK K)
            (refine wpQuiet_step (fun K hK => ?_); go_simp; (first | refine hK _ ?_ | refine ⟨_, fun _ _ => rfl, hK _ ?_⟩); clear hK K)
            (refine wpQuiet_step (fun K hK => ?_); go_simp; (first | refine hK _ ?_ | refine ⟨_, fun _ _ => rfl, hK _ ?_⟩); clear hK K)
            (refine wpQuiet_step (fun K hK => ?_); go_simp; refine ⟨.pointer (some ⟨g, k, none⟩), fun W hW => ?_, hK _ ?_⟩; (first | (rw [if_pos (by omega)]; exact ⟨rfl, rfl⟩) | (rw [if_pos (by omega)]; rfl) | exact ⟨rfl, rfl⟩ | rfl); clear hK K)
            (refine wpQuiet_step (fun K hK => ?_); go_simp; refine ⟨(.slice (some ⟨g2, 0, none⟩) x.length c2), fun W hW => ?_, hK _ ?_⟩; (first | (rw [HC2.out W hW]; exact ⟨rfl, rfl⟩) | (rw [HC2.out W hW]; rfl)); clear hK K)
            (refine wpQuiet_step (fun K hK => ?_); go_simp; refine ⟨(.string ⟨x.toArray⟩), fun W hW => ?_, hK _ ?_⟩; (first | (rw [HV2.out W hW]; exact ⟨rfl, rfl⟩) | (rw [HV2.out W hW]; rfl)); clear hK K)
            (refine wpQuiet_step (fun K hK => ?_); go_simp; (first | refine hK _ ?_ | refine ⟨_, fun _ _ => rfl, hK _ ?_⟩); clear hK K)
            (refine wpQuiet_step (fun K hK => ?_); go_simp; (first | refine hK _ ?_ | refine ⟨_, fun _ _ => rfl, hK _ ?_⟩); clear hK K)
            (with_reducible refine wpQuiet_step (fun K hK => ?_)); go_simp; (with_reducible refine hK _ ?_); clear hK K
            (with_reducible refine wpQuiet_step (fun K hK => ?_)); go_simp; (with_reducible refine hK _ ?_); clear hK K
            (with_reducible refine wpQuiet_step (fun K hK => ?_)); go_simp; (with_reducible refine hK _ ?_); clear hK K
            (with_reducible refine wpQuiet_step (fun K hK => ?_)); go_simp; (with_reducible refine hK _ ?_); clear hK K
            (with_reducible refine wpQuiet_step (fun K hK => ?_)); go_simp; (with_reducible refine hK _ ?_); clear hK K
            (with_reducible refine wpQuiet_step (fun K hK => ?_)); go_simp; (with_reducible refine hK _ ?_); clear hK K
            (with_reducible refine wpQuiet_step (fun K hK => ?_)); go_simp; (with_reducible refine hK _ ?_); clear hK K
            (with_reducible refine wpQuiet_step (fun K hK => ?_)); go_simp; (with_reducible refine hK _ ?_); clear hK K
            (with_reducible refine wpQuiet_step (fun K hK => ?_)); go_simp; (with_reducible refine hK _ ?_); clear hK K
            (with_reducible refine wpQuiet_step (fun K hK => ?_)); go_simp; (with_reducible refine hK _ ?_); clear hK K
            (with_reducible refine wpQuiet_step (fun K hK => ?_)); go_simp; (with_reducible refine hK _ ?_); clear hK K
            (refine wpQuiet_step (fun K hK => ?_); go_simp; (first | refine hK _ ?_ | refine ⟨_, fun _ _ => rfl, hK _ ?_⟩); clear hK K)
            refine wpQuiet_nil ?_
            clear Z
            intro w2 Z
            go_wp2
            go_roundw
            case rel => exact ⟨k + 1, Nat.succ_le_of_lt HK2.out, by go_num, HB2, Z⟩
            case measure => simp [intOf]; omega
          · have e3 : (!x == y) = true := by simpa using hxy
            have HB2 : Hid (P ≠ R → ∀ b u, b < k + 1 → l[b]? = some u → HH.sh x = HH.sh u → x = u) := Lib.hid (fun hne b u hb hu hs => by
              rcases Nat.lt_or_ge b k with h | h
              · exact HB.out b u h hu hs
              · obtain rfl : b = k := by omega
                rw [HY.out] at hu
                obtain rfl := Option.some.inj hu
                exact absurd (HP.out.trans (hs.trans HR.out.symm)) hne)
            clear hxy
            go_wp2
            refine QTail.whole (fun W => Below w.heap.size w W) (by kernel_rfl) (by kernel_rfl) (bcj Z (Hash.belowD _)) ?_
            (refine wpQuiet_step (fun K hK => ?_); go_simp; (first | refine hK _ ?_ | refine ⟨_, fun _ _ => rfl, hK _ ?_⟩); clear hK K)
            (refine wpQuiet_step (fun K hK => ?_); go_simp; (first | refine hK _ ?_ | refine ⟨_, fun _ _ => rfl, hK _ ?_⟩); clear hK K)
            (refine wpQuiet_step (fun K hK => ?_); go_simp; refine ⟨.pointer (some ⟨g, i, none⟩), fun W hW => ?_, hK _ ?_⟩; (first | (rw [if_pos (by omega)]; exact ⟨rfl, rfl⟩) | (rw [if_pos (by omega)]; rfl) | exact ⟨rfl, rfl⟩ | rfl); clear hK K)
            (refine wpQuiet_step (fun K hK => ?_); go_simp; refine ⟨(.slice (some ⟨g1, 0, none⟩) x.length c1), fun W hW => ?_, hK _ ?_⟩; (first | (rw [HC1.out W hW]; exact ⟨rfl, rfl⟩) | (rw [HC1.out W hW]; rfl)); clear hK K)
            (refine wpQuiet_step (fun K hK => ?_); go_simp; refine ⟨(.string ⟨x.toArray⟩), fun W hW => ?_, hK _ ?_⟩; (first | (rw [HV1.out W hW]; exact ⟨rfl, rfl⟩) | (rw [HV1.out W hW]; rfl)); clear hK K)
            (refine wpQuiet_step (fun K hK => ?_); go_simp; (first | refine hK _ ?_ | refine ⟨_, fun _ _ => rfl, hK _ ?_⟩); clear hK K)
            (refine wpQuiet_step (fun K hK => ?_); go_simp; (first | refine hK _ ?_ | refine ⟨_, fun _ _ => rfl, hK _ ?_⟩); clear hK K)
            (refine wpQuiet_step (fun K hK => ?_); go_simp; refine ⟨.pointer (some ⟨g, k, none⟩), fun W hW => ?_, hK _ ?_⟩; (first | (rw [if_pos (by omega)]; exact ⟨rfl, rfl⟩) | (rw [if_pos (by omega)]; rfl) | exact ⟨rfl, rfl⟩ | rfl); clear hK K)
            (refine wpQuiet_step (fun K hK => ?_); go_simp; refine ⟨(.slice (some ⟨g2, 0, none⟩) y.length c2), fun W hW => ?_, hK _ ?_⟩; (first | (rw [HC2.out W hW]; exact ⟨rfl, rfl⟩) | (rw [HC2.out W hW]; rfl)); clear hK K)
            (refine wpQuiet_step (fun K hK => ?_); go_simp; refine ⟨(.string ⟨y.toArray⟩), fun W hW => ?_, hK _ ?_⟩; (first | (rw [HV2.out W hW]; exact ⟨rfl, rfl⟩) | (rw [HV2.out W hW]; rfl)); clear hK K)
            (refine wpQuiet_step (fun K hK => ?_); go_simp; (first | refine hK _ ?_ | refine ⟨_, fun _ _ => rfl, hK _ ?_⟩); clear hK K)
            (refine wpQuiet_step (fun K hK => ?_); go_simp; (first | refine hK _ ?_ | refine ⟨_, fun _ _ => rfl, hK _ ?_⟩); clear hK K)
            (refine wpQuiet_step (fun K hK => ?_); go_simp; (first | refine hK _ ?_ | refine ⟨_, fun _ _ => rfl, hK _ ?_⟩); clear hK K)
            (refine wpQuiet_step (fun K hK => ?_); go_simp; (first | refine hK _ ?_ | refine ⟨_, fun _ _ => rfl, hK _ ?_⟩); clear hK K)
            (refine wpQuiet_step (fun K hK => ?_); go_simp; refine ⟨.pointer (some ⟨g, i, none⟩), fun W hW => ?_, hK _ ?_⟩; (first | (rw [if_pos (by omega)]; exact ⟨rfl, rfl⟩) | (rw [if_pos (by omega)]; rfl) | exact ⟨rfl, rfl⟩ | rfl); clear hK K)
            (refine wpQuiet_step (fun K hK => ?_); go_simp; refine ⟨(.slice (some ⟨g1, 0, none⟩) x.length c1), fun W hW => ?_, hK _ ?_⟩; (first | (rw [HC1.out W hW]; exact ⟨rfl, rfl⟩) | (rw [HC1.out W hW]; rfl)); clear hK K)
            (refine wpQuiet_step (fun K hK => ?_); go_simp; refine ⟨_, fun W hW => (HS1.out W hW).mono fun e w' ⟨he, hb⟩ => ⟨he, hW.trans (hb.mono hW.size)⟩, hK _ ?_⟩; clear hK K)
            (refine wpQuiet_step (fun K hK => ?_); go_simp; (first | refine hK _ ?_ | refine ⟨_, fun _ _ => rfl, hK _ ?_⟩); clear hK K)
            (refine wpQuiet_step (fun K hK => ?_); go_simp; (first | refine hK _ ?_ | refine ⟨_, fun _ _ => rfl, hK _ ?_⟩); clear hK K)
            (refine wpQuiet_step (fun K hK => ?_); go_simp; refine ⟨.pointer (some ⟨g, k, none⟩), fun W hW => ?_, hK _ ?_⟩; (first | (rw [if_pos (by omega)]; exact ⟨rfl, rfl⟩) | (rw [if_pos (by omega)]; rfl) | exact ⟨rfl, rfl⟩ | rfl); clear hK K)
            (refine wpQuiet_step (fun K hK => ?_); go_simp; refine ⟨(.slice (some ⟨g2, 0, none⟩) y.length c2), fun W hW => ?_, hK _ ?_⟩; (first | (rw [HC2.out W hW]; exact ⟨rfl, rfl⟩) | (rw [HC2.out W hW]; rfl)); clear hK K)
            (refine wpQuiet_step (fun K hK => ?_); go_simp; refine ⟨_, fun W hW => (HS2.out W hW).mono fun e w' ⟨he, hb⟩ => ⟨he, hW.trans (hb.mono hW.size)⟩, hK _ ?_⟩; clear hK K)
            have e2 := E1.out
            (refine wpQuiet_step (fun K hK => ?_); go_simp; (first | refine hK _ ?_ | refine ⟨_, fun _ _ => rfl, hK _ ?_⟩); clear hK K)
            (refine wpQuiet_step (fun K hK => ?_); go_simp; (first | refine hK _ ?_ | refine ⟨_, fun _ _ => rfl, hK _ ?_⟩); clear hK K)
            refine wpQuiet_nil ?_
            clear Z e2 e3
            intro w2 Z
            by_cases hpr : P = R
            · have e4 : (P == R) = true := by simpa using hpr
              rw [e4]
              clear hpr e4
              go_wp2
              go_ret
              exact ⟨true, ⟨rfl, Z⟩, fun h => by cases h⟩
            · have e4 : (P == R) = false := by simpa using hpr
              rw [e4]
              have HB3 := Lib.hid (HB2.out hpr)
              clear hpr e4
              go_wp2
              go_roundw
              case rel => exact ⟨k + 1, Nat.succ_le_of_lt HK2.out, by go_num, HB3, Z⟩
              case measure => simp [intOf]; omega
        · have z5 : ¬ (k : Int) < (i : Int) := by omega
          obtain rfl : i = k := by omega
          have HA2 : Hid (Apart l (i + 1)) := Lib.hid (fun a b u v ha hb hu hv hs => by
            rcases Nat.lt_or_ge a i with h | h
            · exact HA.out a b u v h hb hu hv hs
            · obtain rfl : a = i := by omega
              rw [HX.out] at hu
              obtain rfl := Option.some.inj hu
              exact HB.out b v hb hv hs)
          go_wp2
          go_roundw
          case rel => exact ⟨i + 1, Nat.succ_le_of_lt HIN.out, by go_num, HA2, Z⟩
          case measure => simp [intOf]; omega
    · have z3 : ¬ (i : Int) < (n : Int) := by omega
      obtain rfl : n = i := by omega
      go_wp2
      go_ret
      exact ⟨false, ⟨rfl, Z⟩, fun _ => apart_all (by rw [HLN.out]; exact HA.out)⟩
end Mk
end Go.Proofs.YthpkeaafgabjiaaDoor
