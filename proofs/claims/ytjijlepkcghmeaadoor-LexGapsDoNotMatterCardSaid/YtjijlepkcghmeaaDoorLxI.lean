/- LexTokensLieInText walked. Conditions: what the package answers, what came in. -/
import Derived.Test.YtjijlepkcghmeaaDoorLxK
namespace Go.Proofs.YtjijlepkcghmeaaDoor
open Go.RowKit
namespace Lx
open Wire (bv sv Lies)

theorem belowD (W : World) : Below W.heap.size W W.drew := ⟨rfl, rfl, rfl, Nat.le_refl _, fun _ _ => rfl⟩
/-- A gap has no tokens: what the reference answers there. -/
theorem refGap (t : List UInt8) (a p : Nat) (hp : p ≤ t.length) (hl : t.length ≤ 4000) (ha : a ≤ p) (h : skip false ((t.drop a).take (p - a)) = []) (w : World) :
    Calls Tryd.prog 11 #[.string ((⟨t.toArray⟩ : ByteArray).extract a p)] w (fun e w' => ∃ A c, e = .returned (.agg #[.slice A 0 c, .int .i64 0, .int .i64 0]) ∧ Below w.heap.size w w') := by
  have e : (⟨t.toArray⟩ : ByteArray).extract a p = ⟨((t.drop a).take (p - a)).toArray⟩ := by
    have := ext_take t a (p - a)
    rwa [show a + (p - a) = p by omega] at this
  rw [e]
  have hr : read ((t.drop a).take (p - a)) = .ok [] := by
    rw [read_short (by rw [List.length_take, List.length_drop]; omega)]
    exact toks_gap 0 h
  have hc := refRead ((t.drop a).take (p - a)) w
  rw [hr] at hc
  refine hc.mono fun e w' ⟨A, n, c, he, ho, hb⟩ => ?_
  obtain rfl : 0 = n := ho.len
  exact ⟨A, c, he, hb⟩

set_option maxRecDepth 100000 in
set_option maxHeartbeats 4000000 in
theorem law_lie {T : World → Prop} (pk : Pkg T) (t : List UInt8) (w : World) (ht : T w) : Calls Tryd.prog 6 #[.string ⟨t.toArray⟩] w (GivesB true w) := by
  have Z := Below.refl w.heap.size w
  have hs := size_of t
  have HSA := Lib.hid (fun W (h : Below w.heap.size w W) => sanity_any pk W (pk.on _ _ h ht))
  by_cases hl : 4000 < t.length
  · have z0 : (4000 : Int) < (t.length : Int) := by omega
    generalize (⟨t.toArray⟩ : ByteArray) = X at *
    clear hl ht
    go_enter Tryd.func6, Tryd.ntmps6
    go_wp2_with (first
      | (go_at_call 9; (with_reducible refine (HSA.out _ Z).mono ?_); rintro e w1 ⟨rfl, hb⟩; replace Z := Wire.bc Z hb; clear hb))
    go_ret
    exact ⟨rfl, Z⟩
  have z0 : ¬ (4000 : Int) < (t.length : Int) := by omega
  have HT := Lib.hid (fun W (h : Below w.heap.size w W) => pkgRead pk t W (by omega) (pk.on _ _ h ht))
  rw [read_short (by omega)] at HT
  cases hr : toks 0 t with
  | bad p q =>
    rw [hr] at HT
    have hq := toks_err (t.length + 1) 0 t p q (by omega) hr
    have z1 : ¬ (q : Int) = 0 := by omega
    generalize (⟨t.toArray⟩ : ByteArray) = X at *
    clear hl ht hr hq
    simp only [Res.at_, Res.err, Res.list] at HT
    go_enter Tryd.func6, Tryd.ntmps6
    go_wp2_with (first
      | (go_at_call 9; (with_reducible refine (HSA.out _ Z).mono ?_); rintro e w1 ⟨rfl, hb⟩; replace Z := Wire.bc Z hb; clear hb)
      | (go_at_call 10; (with_reducible refine (HT.out _ Z).mono ?_); rintro e w2 ⟨A, n, c, rfl, ho, hb⟩; replace Z := Wire.bc Z hb; obtain rfl : 0 = n := ho.len; clear ho hb))
    go_ret
    exact ⟨rfl, Z⟩
  | ok l =>
    rw [hr] at HT
    have hlie := toks_lie (t.length + 1) 0 t l (by omega) hr
    have HLIE := Lib.hid hlie
    have HLT := Lib.hid (lie_texts l 0 t hlie)
    have HTL := Lib.hid (Nat.le_of_not_lt hl)
    have HG := Lib.hid (fun a p hp ha h W => refGap t a p hp (Nat.le_of_not_lt hl) ha h W)
    have HEX := Lib.hid (fun i m => ext_take t i m)
    generalize (⟨t.toArray⟩ : ByteArray) = X at *
    simp only [Res.at_, Res.err, Res.list] at HT
    clear hl ht hr hlie
    go_enter Tryd.func6, Tryd.ntmps6
    go_wp2_with (first
      | (go_at_call 9; (with_reducible refine (HSA.out _ Z).mono ?_); rintro e w1 ⟨rfl, hb⟩; replace Z := Wire.bc Z hb; clear hb)
      | (go_at_call 10; (with_reducible refine (HT.out _ Z).mono ?_); rintro e w2 ⟨A, n, c, rfl, ho, hb⟩; replace Z := Wire.bc Z hb; have O1 := Lib.hid ho; clear ho hb))
    have HN : Hid (l.length = n ∧ n ≤ 4000) := Lib.hid (by
      have h1 := O1.out.len
      rw [List.length_map] at h1
      have h2 := HLT.out.1
      have h3 := HTL.out
      omega)
    have hmc : c ≤ 9223372036854775807 ∧ n ≤ c := by
      obtain ⟨A', c', e, hli⟩ := O1.out.form
      cases e
      have := hli.most
      have := hli.le
      unfold maxLen at *
      omega
    obtain ⟨hmost, hle⟩ := hmc
    have HZ := Lib.hid Z
    clear Z
    go_loopw [7, 8, 9, 10] (fun av iv _ _ wr => ∃ (i a : Nat), Hid (i ≤ n + 1 ∧ a ≤ t.length ∧ (i ≤ n → Lie a (t.drop a) (l.drop i))) ∧ av = .int .i64 (a : Int) ∧ iv = .int .i64 (i : Int) ∧ Below w2.heap.size w2 wr) (fun _ iv _ _ _ => ((n : Int) + 1 - intOf iv).toNat)
    case atStart => exact ⟨0, 0, Lib.hid ⟨Nat.zero_le _, Nat.zero_le _, fun _ => HLIE.out⟩, rfl, rfl, Below.refl _ _⟩
    case round =>
      obtain ⟨i, a, HI, rfl, rfl, Z2⟩ := hrel
      have z4 : (i : Int) ≤ 4001 := by have := HI.out.1; have := HN.out.2; omega
      have z5 : (a : Int) ≤ 4000 := by have := HI.out.2.1; have := HTL.out; omega
      have z6 : (t.length : Int) ≤ 4000 := by have := HTL.out; omega
      by_cases hi : i < n
      · have z1 : (i : Int) < (n : Int) := by omega
        have z2 : (i : Int) ≤ (n : Int) := by omega
        have z3 : (0 : Int) ≤ (i : Int) := by omega
        have hil : i < l.length := by rw [HN.out.1]; exact hi
        have hd1 := List.drop_eq_getElem_cons hil
        obtain ⟨u, hu⟩ : ∃ u, u = l[i] := ⟨_, rfl⟩
        rw [← hu] at hd1
        have hlu : (l.map Tok.ti)[i]? = some u.ti := by rw [List.getElem?_map, List.getElem?_eq_getElem hil, hu]; rfl
        have HL0 := HI.out.2.2 (Nat.le_of_lt hi)
        rw [hd1] at HL0
        obtain ⟨g1, g2, g3, g4, g5, g6⟩ := HL0
        rw [List.length_drop] at g5
        have hta : a ≤ t.length := HI.out.2.1
        have hpe : a + (u.pos - a) = u.pos := by omega
        rw [List.drop_drop, hpe] at g3
        rw [List.drop_drop, show a + (u.pos - a + u.text.length) = u.pos + u.text.length by omega] at g6
        have hple : u.pos + u.text.length ≤ t.length := by omega
        have HNX := Lib.hid g6
        obtain ⟨A', c', e, hli⟩ := O1.out.form
        cases e
        obtain ⟨b, o, rfl, hb, hcl⟩ := lies_tok hli hlu
        have H1 : ∀ (f : Nat) (v : Value), u.ti.cells[f]? = some v → ∀ W, Below w2.heap.size w2 W → W.cell? ⟨b, o + i * 4 + f, none⟩ = some v := fun f v hv W h => by
          rw [Nat.add_assoc, h.cell (p := ⟨b, o + (i * 4 + f), none⟩) hb]
          exact hcl f v hv
        have HG1 := Lib.hid (HG.out a u.pos (by omega) g1 g2)
        have hex : X.extract u.pos (u.pos + u.text.length) = ⟨u.text.toArray⟩ := by rw [HEX.out, ← g3]
        have hts := size_of u.text
        have C1 : Hid (∀ W, Below w2.heap.size w2 W → W.cell? ⟨b, o + i * 4 + 1, none⟩ = some (.string ⟨u.text.toArray⟩)) := Lib.hid (fun W h => H1 1 _ rfl W h)
        have C3 : Hid (∀ W, Below w2.heap.size w2 W → W.cell? ⟨b, o + i * 4 + 3, none⟩ = some (.int .i64 (u.pos : Int))) := Lib.hid (fun W h => H1 3 _ rfl W h)
        have y1 : (a : Int) ≤ (u.pos : Int) := by omega
        have y2 : (u.pos : Int) + (u.text.length : Int) ≤ (t.length : Int) := by omega
        have y3 : ¬ (u.text.length : Int) = 0 := by omega
        have HLE := Lib.hid hple
        have HIL := Lib.hid hi
        generalize u.pos = p at *
        generalize u.text.length = m at *
        generalize (⟨u.text.toArray⟩ : ByteArray) = U at *
        clear hd1 hu hlu g1 g2 g3 g4 g5 g6 hpe hple hcl H1 hil hi hta hli hb
        have y4 : ((m : Int) == 0) = false := by simpa using y3
        have hc3 := C3.out _ Z2
        go_wp2_with (first
          | (go_at_call 11; (with_reducible refine (HG1.out _).mono ?_); rintro e w3 ⟨B, d, rfl, hb⟩; clear hc3; replace Z2 := Wire.bc Z2 hb; clear hb)
          | ((with_reducible refine Hash.at_slot 79 rfl ?_); refine gen_world (Pq := fun W => Below w2.heap.size w2 W) (G := fun W => wpList _ _ _ _ _ W) (Wire.bc Z2 (Wire.b1 _ _)) ?_; clear Z2; intro w4 Z2; have hc1 := C1.out _ Z2))
        clear hc1
        refine QTail.whole (fun W => Below w2.heap.size w2 W) (by kernel_rfl) (by kernel_rfl) (Wire.bc Z2 (belowD _)) ?_
        (refine wpQuiet_step (fun K hK => ?_); go_simp; (first | refine hK _ ?_ | refine ⟨_, fun _ _ => rfl, hK _ ?_⟩); clear hK K)
        (refine wpQuiet_step (fun K hK => ?_); go_simp; (first | refine hK _ ?_ | refine ⟨_, fun _ _ => rfl, hK _ ?_⟩); clear hK K)
        (refine wpQuiet_step (fun K hK => ?_); go_simp; (first | refine hK _ ?_ | refine ⟨_, fun _ _ => rfl, hK _ ?_⟩); clear hK K)
        (refine wpQuiet_step (fun K hK => ?_); go_simp; (first | refine hK _ ?_ | refine ⟨_, fun _ _ => rfl, hK _ ?_⟩); clear hK K)
        (refine wpQuiet_step (fun K hK => ?_); go_simp; (first | refine hK _ ?_ | refine ⟨_, fun _ _ => rfl, hK _ ?_⟩); clear hK K)
        (refine wpQuiet_step (fun K hK => ?_); go_simp; (first | refine hK _ ?_ | refine ⟨_, fun _ _ => rfl, hK _ ?_⟩); clear hK K)
        (refine wpQuiet_step (fun K hK => ?_); go_simp; (first | refine hK _ ?_ | refine ⟨_, fun _ _ => rfl, hK _ ?_⟩); clear hK K)
        (refine wpQuiet_step (fun K hK => ?_); go_simp; (first | refine hK _ ?_ | refine ⟨_, fun _ _ => rfl, hK _ ?_⟩); clear hK K)
        (refine wpQuiet_step (fun K hK => ?_); go_simp; refine ⟨.string U, fun W hW => ?_, hK _ ?_⟩; (rw [if_pos (by omega), if_pos (by omega), show ((p : Int) + (m : Int)).toNat = p + m by omega, hex]; exact ⟨rfl, rfl⟩); clear hK K)
        (refine wpQuiet_step (fun K hK => ?_); go_simp; (first | refine hK _ ?_ | refine ⟨_, fun _ _ => rfl, hK _ ?_⟩); clear hK K)
        (refine wpQuiet_step (fun K hK => ?_); go_simp; (first | refine hK _ ?_ | refine ⟨_, fun _ _ => rfl, hK _ ?_⟩); clear hK K)
        (refine wpQuiet_step (fun K hK => ?_); go_simp; refine ⟨.pointer (some ⟨b, o + i * 4, none⟩), fun W hW => ?_, hK _ ?_⟩; (first | (rw [if_pos (by omega)]; exact ⟨rfl, rfl⟩) | (rw [if_pos (by omega)]; rfl) | exact ⟨rfl, rfl⟩ | rfl); clear hK K)
        (refine wpQuiet_step (fun K hK => ?_); go_simp; (first | refine hK _ ?_ | refine ⟨_, fun _ _ => rfl, hK _ ?_⟩); clear hK K)
        (refine wpQuiet_step (fun K hK => ?_); go_simp; refine ⟨(.string U), fun W hW => ?_, hK _ ?_⟩; (first | (rw [C1.out W hW]; exact ⟨rfl, rfl⟩) | (rw [C1.out W hW]; rfl)); clear hK K)
        (refine wpQuiet_step (fun K hK => ?_); go_simp; (first | refine hK _ ?_ | refine ⟨_, fun _ _ => rfl, hK _ ?_⟩); clear hK K)
        (refine wpQuiet_step (fun K hK => ?_); go_simp; (first | refine hK _ ?_ | refine ⟨_, fun _ _ => rfl, hK _ ?_⟩); clear hK K)
        (refine wpQuiet_step (fun K hK => ?_); go_simp; (first | refine hK _ ?_ | refine ⟨_, fun _ _ => rfl, hK _ ?_⟩); clear hK K)
        (refine wpQuiet_step (fun K hK => ?_); go_simp; (first | refine hK _ ?_ | refine ⟨_, fun _ _ => rfl, hK _ ?_⟩); clear hK K)
        (refine wpQuiet_step (fun K hK => ?_); go_simp; (first | refine hK _ ?_ | refine ⟨_, fun _ _ => rfl, hK _ ?_⟩); clear hK K)
        (refine wpQuiet_step (fun K hK => ?_); go_simp; refine ⟨.pointer (some ⟨b, o + i * 4, none⟩), fun W hW => ?_, hK _ ?_⟩; (first | (rw [if_pos (by omega)]; exact ⟨rfl, rfl⟩) | (rw [if_pos (by omega)]; rfl) | exact ⟨rfl, rfl⟩ | rfl); clear hK K)
        (refine wpQuiet_step (fun K hK => ?_); go_simp; (first | refine hK _ ?_ | refine ⟨_, fun _ _ => rfl, hK _ ?_⟩); clear hK K)
        (refine wpQuiet_step (fun K hK => ?_); go_simp; refine ⟨(.string U), fun W hW => ?_, hK _ ?_⟩; (first | (rw [C1.out W hW]; exact ⟨rfl, rfl⟩) | (rw [C1.out W hW]; rfl)); clear hK K)
        (refine wpQuiet_step (fun K hK => ?_); go_simp; (first | refine hK _ ?_ | refine ⟨_, fun _ _ => rfl, hK _ ?_⟩); clear hK K)
        (refine wpQuiet_step (fun K hK => ?_); go_simp; (first | refine hK _ ?_ | refine ⟨_, fun _ _ => rfl, hK _ ?_⟩); clear hK K)
        (refine wpQuiet_step (fun K hK => ?_); go_simp; (first | refine hK _ ?_ | refine ⟨_, fun _ _ => rfl, hK _ ?_⟩); clear hK K)
        refine wpQuiet_nil ?_
        clear Z2
        intro w5 Z2
        go_wp2
        go_roundw
        case rel => exact ⟨i + 1, p + m, Lib.hid ⟨Nat.succ_le_succ (Nat.le_of_lt HIL.out), HLE.out, fun _ => HNX.out⟩, by go_num, by go_num, Z2⟩
        case measure => have := HIL.out; simp [intOf]; omega
      · by_cases hi2 : i = n
        · subst hi2
          have z1 : ¬ (i : Int) < (i : Int) := by omega
          have z2 : (i : Int) ≤ (i : Int) := by omega
          have HL0 := HI.out.2.2 (Nat.le_refl _)
          rw [show l.drop i = [] from List.drop_eq_nil_of_le (by rw [HN.out.1]; exact Nat.le_refl _)] at HL0
          have HG1 := Lib.hid (HG.out a t.length (Nat.le_refl _) HI.out.2.1 (by
            have h0 : skip false (t.drop a) = [] := HL0
            rw [List.take_of_length_le (by rw [List.length_drop]; exact Nat.le_refl _)]
            exact h0))
          have y1 : (a : Int) ≤ (t.length : Int) := by have := HI.out.2.1; omega
          clear HL0 hi
          go_wp2_with (first
            | (go_at_call 11; (with_reducible refine (HG1.out _).mono ?_); rintro e w3 ⟨B, d, rfl, hb⟩; replace Z2 := Wire.bc Z2 hb; clear hb))
          go_roundw
          case rel => exact ⟨i + 1, a, Lib.hid ⟨Nat.le_refl _, HI.out.2.1, fun h => absurd h (Nat.not_succ_le_self _)⟩, rfl, by go_num, Wire.bc Z2 (Wire.b1 _ _)⟩
          case measure => simp [intOf] <;> omega
        · have z1 : ¬ (i : Int) ≤ (n : Int) := by have := HI.out.1; omega
          clear hi hi2
          go_wp2
          go_ret
          exact ⟨rfl, Wire.bc HZ.out Z2⟩
end Lx
end Go.Proofs.YtjijlepkcghmeaaDoor
