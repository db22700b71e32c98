/- What wire.Int returns. -/
import Derived.Test.YthpkeaafgabjiaaDoorZBase
namespace Go.Proofs.YthpkeaafgabjiaaDoor
open Go.RowKit
namespace Wire

/-- A new slice of bytes is returned, which holds the list; nothing else has turned. -/
def Made (w : World) (n : Nat) (l : List UInt8) (e : Ending) (w' : World) : Prop :=
  ∃ g cap, e = .returned (.slice (some ⟨g, 0, none⟩) n cap) ∧ w'.ownsRow w.heap.size 5 1 (.slice (some ⟨g, 0, none⟩) n cap) n (l.map bv) ∧ Below w.heap.size w w'

theorem byte_info : (Tryd.prog.info? 5).map (fun i => (i.zero, i.size, i.bytes)) = some (some (.int .u8 0), 1, 1) := by kernel_rfl

theorem make9 : ∀ w : World, (Instr.makeSlice 38 (.int .i64 1) (.int .i64 9)).run Tryd.prog w =
    .ok (.slice (some ⟨w.heap.size, 0, none⟩) 1 9) (w.alloc (.cells #[.int .u8 0, .int .u8 0, .int .u8 0, .int .u8 0, .int .u8 0, .int .u8 0, .int .u8 0, .int .u8 0, .int .u8 0] 5)) := fun _ => by kernel_rfl

set_option maxRecDepth 100000 in
set_option maxHeartbeats 400000 in
theorem int_pos (m : Nat) (w : World) (h : m < 9223372036854775808) :
    Calls Tryd.prog 73 #[.int .i64 m] w fun e w' => Made w (1 + (digs m).length) (head false (digs m).length :: (digs m).map (flip false)) e w' := by
  have hlt : ¬ (m : Int) < 0 := by omega
  obtain ⟨i0, hi, hz0, hz1, hz2⟩ := info_parts byte_info
  have hmk := make9
  go_enter Tryd.func73, Tryd.ntmps73
  go_wp2
  go_step3
  go_wp2
  go_step3
  go_wp2
  go_loopw [5, 6] (fun v sh wr => ∃ (k : Nat) (s : Int) (l : List UInt8) (g n cap : Nat), k ≤ 8 ∧ s = 8 * (k : Int) - 8 ∧ l = digs (m / 256 ^ k) ∧ n = 1 + l.length ∧ sh = .int .i64 s ∧ v = .slice (some ⟨g, 0, none⟩) n cap ∧
      wr.ownsRow w.heap.size 5 1 v n (bv 0 :: l.map fun c => bv (flip false c)) ∧ Below w.heap.size w wr) (fun _ sh _ => (intOf sh + 8).toNat)
  case atStart =>
    refine ⟨8, 56, [], _, 1, 9, by omega, rfl, ?_, rfl, rfl, rfl, ?_, (Below.refl _ _).alloc (Nat.le_refl _) _⟩
    · rw [Nat.div_eq_of_lt (by omega), digs_zero]
    · exact ⟨rfl, .inr ⟨_, 9, _, rfl, Nat.le_refl _, heap_alloc_new w _, by omega, by unfold maxLen; omega, rfl, rfl⟩⟩
  case round =>
    obtain ⟨k, s, l, g, n, cap, hk, hs, hl, hn, rfl, rfl, hown, hb⟩ := hrel
    have hlen : l.length ≤ 8 := by
      rw [hl]; exact digs_length_le 8 _ (Nat.lt_of_le_of_lt (Nat.div_le_self _ _) (by omega))
    have hn1 : 1 ≤ n := by omega
    have hn9 : n ≤ 9 := by omega
    cases k with
    | zero =>
      have hs1 : ¬ 0 ≤ s := by omega
      have HS := Lib.hid hs; clear hs
      have HL := Lib.hid hl; clear hl
      have HN := Lib.hid hn; clear hn
      have hc := hown.cellAt 0 (by omega)
      have hfz := hown.frozenAt 0
      simp at hc
      go_wp2
      go_ret
      have hl : l = digs m := by have := HL.out; simpa using this
      have hn := HN.out
      rw [← hl, ← hn]
      have hu := head_false hn hlen
      exact ⟨g, cap, rfl, head_stored hown hu, hb.setCell (hown.lt _ rfl).1 _⟩
    | succ j =>
      have hs0 : 0 ≤ s := by omega
      have hs1 : s ≤ 56 := by omega
      obtain ⟨q, hq⟩ : ∃ q, q = m / 256 ^ j := ⟨_, rfl⟩
      have hsh := two_pow_shift j s hs m
      rw [← hq] at hsh
      obtain ⟨c, hc⟩ : ∃ c, c = UInt8.ofNat (q % 256) := ⟨_, rfl⟩
      have hdd : (q : Int) % 256 = (c.toNat : Int) := by rw [hc, toNat_ofNat]; omega
      have HS := Lib.hid hs; clear hs
      have HN := Lib.hid hn
      have HC := Lib.hid hc; clear hc
      have HQ := Lib.hid hq; clear hq
      by_cases hd : c.toNat = 0 ∧ l = []
      · obtain ⟨hd, rfl⟩ := hd
        have HL := Lib.hid hl; clear hl
        simp at hn; subst hn
        rw [hd] at hdd
        have HD := Lib.hid hd; clear hd
        go_wp2
        go_roundw
        case rel =>
          refine ⟨j, s - 8, [], g, 1, cap, by omega, by have := HS.out; omega, ?_, rfl, rfl, rfl, hown, hb⟩
          have := HD.out
          rw [HC.out, toNat_ofNat, HQ.out] at this
          exact (digs_step_skip this HL.out.symm).symm
        case measure => simp [intOf]; omega
      · have HL := Lib.hid hl; clear hl
        have HL2 : digs (m / 256 ^ j) = l ++ [c] := by
          rw [HC.out, HQ.out, HL.out]
          refine digs_step ?_
          rw [← HL.out, ← HQ.out]
          by_cases h0 : q % 256 = 0
          · refine .inr fun e => hd ⟨?_, e⟩
            rw [HC.out, toNat_ofNat]; exact h0
          · exact .inl h0
        have HL3 := Lib.hid HL2; clear HL2
        have hn2 : n = 1 ∨ 2 ≤ n := by omega
        have HN2 := Lib.hid hn; clear hn
        have hxo := xor_zero c
        have hx0 : bits .xor .u8 0 0 = 0 := by decide +kernel
        have fin : ∀ v' w', w'.ownsRow w.heap.size 5 1 v' (n + 1) ((bv 0 :: l.map fun c => bv (flip false c)) ++ [bv (flip false c)]) → (wr.alloc (.cells #[bv (flip false c)] 5)).grownBy w' (some g) →
            (∃ (k : Nat) (s_1 : Int) (l : List UInt8) (g n cap : Nat), k ≤ 8 ∧ s_1 = 8 * (k : Int) - 8 ∧ l = digs (m / 256 ^ k) ∧ n = 1 + l.length ∧ Value.int .i64 (s - 8) = .int .i64 s_1 ∧ v' = .slice (some ⟨g, 0, none⟩) n cap ∧
              w'.ownsRow w.heap.size 5 1 v' n (bv 0 :: l.map fun c => bv (flip false c)) ∧ Below w.heap.size w w') := by
          intro v' w' ho hg
          obtain ⟨g', cap', rfl, _⟩ := own_form ho (by omega)
          refine ⟨j, s - 8, l ++ [c], g', n + 1, cap', by omega, by have := HS.out; omega, HL3.out.symm, by have := HN.out; simp; omega, rfl, rfl, by simpa using ho, ?_⟩
          exact (hb.alloc hb.size _).grown hg (by have := hb.size; simp; omega) (fun k hk => by simp at hk; subst hk; exact (hown.lt _ rfl).1)
        have FIN := Lib.hid fin; clear fin
        by_cases h0 : c.toNat = 0
        · rw [h0] at hdd
          obtain rfl : c = 0 := UInt8.toNat_inj.1 h0
          have hn3 : ¬ (n : Int) = 1 := by
            intro e
            have h1 := HN2.out
            exact hd ⟨h0, List.eq_nil_of_length_eq_zero (by omega)⟩
          have H0 := Lib.hid h0; clear h0 hn2
          have HD := Lib.hid hd; clear hd
          go_wp2_with (at_builtin; refine wpList_append_own _ rfl (.tmp 29) (.tmp 33) _ rfl w.heap.size 5 i0 (.int .u8 0) 1 1 Tryd.underlying38 hi hz0 hz1 hz2 rfl (by decide) _ n _ rfl (hown.alloc _) ⟨wr.heap.size, 0, none⟩ 1 1 [bv (flip false 0)] rfl rfl (fresh_one _ _ _) (one_cell _) (by unfold maxLen; omega) (by omega) (by have := hb.size; simp; omega) ?_; intro v' w1 hown1 hgrow1 _)
          go_roundw
          case rel => exact FIN.out _ _ hown1 hgrow1
          case measure => simp [intOf]; omega
        · have hnz : ¬ (c.toNat : Int) = 0 := by omega
          have H0 := Lib.hid h0; clear h0
          have HD := Lib.hid hd; clear hd
          go_wp2_with (at_builtin; refine wpList_append_own _ rfl (.tmp 29) (.tmp 33) _ rfl w.heap.size 5 i0 (.int .u8 0) 1 1 Tryd.underlying38 hi hz0 hz1 hz2 rfl (by decide) _ n _ rfl (hown.alloc _) ⟨wr.heap.size, 0, none⟩ 1 1 [bv (flip false c)] rfl rfl (fresh_one _ _ _) (one_cell _) (by unfold maxLen; omega) (by omega) (by have := hb.size; simp; omega) ?_; intro v' w1 hown1 hgrow1 _)
          go_roundw
          case rel => exact FIN.out _ _ hown1 hgrow1
          case measure => simp [intOf]; omega
set_option maxRecDepth 100000 in
set_option maxHeartbeats 400000 in
theorem int_neg (m : Nat) (w : World) (h : m < 9223372036854775808) :
    Calls Tryd.prog 73 #[.int .i64 (-1 - m)] w fun e w' => Made w (1 + (digs m).length) (head true (digs m).length :: (digs m).map (flip true)) e w' := by
  have hlt : (-1 - (m : Int)) < 0 := by omega
  have hmm : (-1 - (-1 - (m : Int))) = m := by omega
  obtain ⟨i0, hi, hz0, hz1, hz2⟩ := info_parts byte_info
  have hmk := make9
  go_enter Tryd.func73, Tryd.ntmps73
  go_wp2
  go_step3
  go_wp2
  go_step3
  go_wp2
  go_loopw [5, 6] (fun v sh wr => ∃ (k : Nat) (s : Int) (l : List UInt8) (g n cap : Nat), k ≤ 8 ∧ s = 8 * (k : Int) - 8 ∧ l = digs (m / 256 ^ k) ∧ n = 1 + l.length ∧ sh = .int .i64 s ∧ v = .slice (some ⟨g, 0, none⟩) n cap ∧
      wr.ownsRow w.heap.size 5 1 v n (bv 0 :: l.map fun c => bv (flip true c)) ∧ Below w.heap.size w wr) (fun _ sh _ => (intOf sh + 8).toNat)
  case atStart =>
    refine ⟨8, 56, [], _, 1, 9, by omega, rfl, ?_, rfl, rfl, rfl, ?_, (Below.refl _ _).alloc (Nat.le_refl _) _⟩
    · rw [Nat.div_eq_of_lt (by omega), digs_zero]
    · exact ⟨rfl, .inr ⟨_, 9, _, rfl, Nat.le_refl _, heap_alloc_new w _, by omega, by unfold maxLen; omega, rfl, rfl⟩⟩
  case round =>
    obtain ⟨k, s, l, g, n, cap, hk, hs, hl, hn, rfl, rfl, hown, hb⟩ := hrel
    have hlen : l.length ≤ 8 := by
      rw [hl]; exact digs_length_le 8 _ (Nat.lt_of_le_of_lt (Nat.div_le_self _ _) (by omega))
    have hn1 : 1 ≤ n := by omega
    have hn9 : n ≤ 9 := by omega
    cases k with
    | zero =>
      have hs1 : ¬ 0 ≤ s := by omega
      have HS := Lib.hid hs; clear hs
      have HL := Lib.hid hl; clear hl
      have HN := Lib.hid hn; clear hn
      have hc := hown.cellAt 0 (by omega)
      have hfz := hown.frozenAt 0
      simp at hc
      go_wp2
      go_ret
      have hl : l = digs m := by have := HL.out; simpa using this
      have hn := HN.out
      rw [← hl, ← hn]
      have hu := head_true hn hlen
      exact ⟨g, cap, rfl, head_stored hown hu, hb.setCell (hown.lt _ rfl).1 _⟩
    | succ j =>
      have hs0 : 0 ≤ s := by omega
      have hs1 : s ≤ 56 := by omega
      obtain ⟨q, hq⟩ : ∃ q, q = m / 256 ^ j := ⟨_, rfl⟩
      have hsh := two_pow_shift j s hs m
      rw [← hq] at hsh
      obtain ⟨c, hc⟩ : ∃ c, c = UInt8.ofNat (q % 256) := ⟨_, rfl⟩
      have hdd : (q : Int) % 256 = (c.toNat : Int) := by rw [hc, toNat_ofNat]; omega
      have HS := Lib.hid hs; clear hs
      have HN := Lib.hid hn
      have HC := Lib.hid hc; clear hc
      have HQ := Lib.hid hq; clear hq
      by_cases hd : c.toNat = 0 ∧ l = []
      · obtain ⟨hd, rfl⟩ := hd
        have HL := Lib.hid hl; clear hl
        simp at hn; subst hn
        rw [hd] at hdd
        have HD := Lib.hid hd; clear hd
        go_wp2
        go_roundw
        case rel =>
          refine ⟨j, s - 8, [], g, 1, cap, by omega, by have := HS.out; omega, ?_, rfl, rfl, rfl, hown, hb⟩
          have := HD.out
          rw [HC.out, toNat_ofNat, HQ.out] at this
          exact (digs_step_skip this HL.out.symm).symm
        case measure => simp [intOf]; omega
      · have HL := Lib.hid hl; clear hl
        have HL2 : digs (m / 256 ^ j) = l ++ [c] := by
          rw [HC.out, HQ.out, HL.out]
          refine digs_step ?_
          rw [← HL.out, ← HQ.out]
          by_cases h0 : q % 256 = 0
          · refine .inr fun e => hd ⟨?_, e⟩
            rw [HC.out, toNat_ofNat]; exact h0
          · exact .inl h0
        have HL3 := Lib.hid HL2; clear HL2
        have hn2 : n = 1 ∨ 2 ≤ n := by omega
        have HN2 := Lib.hid hn; clear hn
        have hxo := xor_full c
        have hx0 : bits .xor .u8 0 255 = 255 := by decide +kernel
        have fin : ∀ v' w', w'.ownsRow w.heap.size 5 1 v' (n + 1) ((bv 0 :: l.map fun c => bv (flip true c)) ++ [bv (flip true c)]) → (wr.alloc (.cells #[bv (flip true c)] 5)).grownBy w' (some g) →
            (∃ (k : Nat) (s_1 : Int) (l : List UInt8) (g n cap : Nat), k ≤ 8 ∧ s_1 = 8 * (k : Int) - 8 ∧ l = digs (m / 256 ^ k) ∧ n = 1 + l.length ∧ Value.int .i64 (s - 8) = .int .i64 s_1 ∧ v' = .slice (some ⟨g, 0, none⟩) n cap ∧
              w'.ownsRow w.heap.size 5 1 v' n (bv 0 :: l.map fun c => bv (flip true c)) ∧ Below w.heap.size w w') := by
          intro v' w' ho hg
          obtain ⟨g', cap', rfl, _⟩ := own_form ho (by omega)
          refine ⟨j, s - 8, l ++ [c], g', n + 1, cap', by omega, by have := HS.out; omega, HL3.out.symm, by have := HN.out; simp; omega, rfl, rfl, by simpa using ho, ?_⟩
          exact (hb.alloc hb.size _).grown hg (by have := hb.size; simp; omega) (fun k hk => by simp at hk; subst hk; exact (hown.lt _ rfl).1)
        have FIN := Lib.hid fin; clear fin
        by_cases h0 : c.toNat = 0
        · rw [h0] at hdd
          obtain rfl : c = 0 := UInt8.toNat_inj.1 h0
          have hn3 : ¬ (n : Int) = 1 := by
            intro e
            have h1 := HN2.out
            exact hd ⟨h0, List.eq_nil_of_length_eq_zero (by omega)⟩
          have H0 := Lib.hid h0; clear h0 hn2
          have HD := Lib.hid hd; clear hd
          go_wp2_with (at_builtin; refine wpList_append_own _ rfl (.tmp 29) (.tmp 33) _ rfl w.heap.size 5 i0 (.int .u8 0) 1 1 Tryd.underlying38 hi hz0 hz1 hz2 rfl (by decide) _ n _ rfl (hown.alloc _) ⟨wr.heap.size, 0, none⟩ 1 1 [bv (flip true 0)] rfl rfl (fresh_one _ _ _) (one_cell _) (by unfold maxLen; omega) (by omega) (by have := hb.size; simp; omega) ?_; intro v' w1 hown1 hgrow1 _)
          go_roundw
          case rel => exact FIN.out _ _ hown1 hgrow1
          case measure => simp [intOf]; omega
        · have hnz : ¬ (c.toNat : Int) = 0 := by omega
          have H0 := Lib.hid h0; clear h0
          have HD := Lib.hid hd; clear hd
          go_wp2_with (at_builtin; refine wpList_append_own _ rfl (.tmp 29) (.tmp 33) _ rfl w.heap.size 5 i0 (.int .u8 0) 1 1 Tryd.underlying38 hi hz0 hz1 hz2 rfl (by decide) _ n _ rfl (hown.alloc _) ⟨wr.heap.size, 0, none⟩ 1 1 [bv (flip true c)] rfl rfl (fresh_one _ _ _) (one_cell _) (by unfold maxLen; omega) (by omega) (by have := hb.size; simp; omega) ?_; intro v' w1 hown1 hgrow1 _)
          go_roundw
          case rel => exact FIN.out _ _ hown1 hgrow1
          case measure => simp [intOf]; omega

/-- wire.Int, for every integer. -/
theorem int_any (n : Int) (w : World) (h : -9223372036854775808 ≤ n ∧ n ≤ 9223372036854775807) :
    Calls Tryd.prog 73 #[.int .i64 n] w (Made w (enc n).length (enc n)) := by
  rw [enc_length]
  unfold enc magn
  by_cases hn : n < 0
  · obtain ⟨m, rfl⟩ : ∃ m : Nat, n = -1 - m := ⟨(-1 - n).toNat, by omega⟩
    have e : (-1 - (-1 - (m : Int))).toNat = m := by omega
    rw [if_pos hn, e, decide_eq_true hn]
    exact int_neg m w (by omega)
  · obtain ⟨m, rfl⟩ : ∃ m : Nat, n = m := ⟨n.toNat, by omega⟩
    rw [if_neg hn, Int.toNat_natCast, decide_eq_false hn]
    exact int_pos m w (by omega)

end Wire
end Go.Proofs.YthpkeaafgabjiaaDoor
