/- RefInt; RefBytes: what each of these parts proves stands ahead of it. -/
import Derived.Test.YthpkeaafgabjiaaDoorZInt
import Derived.Test.YthpkeaafgabjiaaDoorZEncB
import Derived.Lib.ConvBytes
/- What the reference's Int returns. -/
namespace Go.Proofs.YthpkeaafgabjiaaDoor
open Go.RowKit
namespace Wire

set_option maxRecDepth 100000 in
set_option maxHeartbeats 1000000 in
theorem refInt_pos (M : Nat) (w : World) (h : M < 9223372036854775808) :
    Calls Tryd.prog 81 #[.int .i64 M] w (Made w (1 + (digs M).length) (head false (digs M).length :: (digs M).map (flip false))) := by
  have hlt : ¬ (M : Int) < 0 := by omega
  obtain ⟨i0, hi, hz0, hz1, hz2⟩ := info_parts byte_info
  have h8 : (digs M).length ≤ 8 := digs_length_le 8 _ (by omega)
  go_enter Tryd.func81, Tryd.ntmps81
  go_wp2
  go_loopw [3, 4] (fun mv v wr => ∃ (q : Nat) (ds : List UInt8), mv = .int .i64 (q : Int) ∧ digs M = digs q ++ ds.reverse ∧ q ≤ M ∧ wr.ownsRow w.heap.size 5 1 v ds.length (ds.map bv) ∧ Below w.heap.size w wr) (fun mv _ _ => (intOf mv).toNat)
  case atStart => exact ⟨M, [], rfl, by simp, by omega, World.ownsRow_nil _ _ _ _, Below.refl _ _⟩
  case round =>
    obtain ⟨q, ds, rfl, hdg, hqM, hown, hb⟩ := hrel
    have hlen : ds.length ≤ 8 := by have := congrArg List.length hdg; simp at this; omega
    rcases Nat.eq_zero_or_pos q with h0 | h0
    · subst h0
      obtain ⟨wo, rfl⟩ : ∃ wo : World, wo = wr := ⟨_, rfl⟩
      have hdg2 : digs M = ds.reverse := by rw [hdg, digs_zero]; rfl
      have HDG := Lib.hid hdg; clear hdg
      obtain ⟨k, hk⟩ : ∃ k, k = ds.length := ⟨_, rfl⟩
      have hk8 : k ≤ 8 := by omega
      rw [← hk] at hown
      obtain ⟨D, cD, rfl, hD⟩ : ∃ D cD, u4 = .slice D k cD ∧ ∀ j x, ds[j]? = some x → ∃ g, D = some ⟨g, 0, none⟩ ∧ g < wo.heap.size ∧ wo.cell? ⟨g, j, none⟩ = some (.int .u8 (x.toNat : Int)) := by
        rcases hown.2 with ⟨rfl, hk0⟩ | ⟨g, cap, cur, rfl, _⟩
        · exact ⟨none, 0, by rw [hk0], fun j x hx => by rw [List.eq_nil_of_length_eq_zero (by omega : ds.length = 0)] at hx; simp at hx⟩
        · refine ⟨_, _, rfl, fun j x hx => ⟨g, rfl, (hown.lt _ rfl).2, ?_⟩⟩
          have hj : j < ds.length := (List.getElem?_eq_some_iff.1 hx).1
          rw [hown.cellAt j (by omega), List.getElem?_map, hx]; rfl
      have hhd : (128 : Int) + (k : Int) = ((head false k).toNat : Int) := by simp [head]; omega
      have HK := Lib.hid hk; clear hk
      have HDG2 := Lib.hid hdg2; clear hdg2
      have HD := Lib.hid hD; clear hD
      have hbw : ∀ w3 : World, (wo.alloc (.cells #[bv (head false k)] 5)).grownBy w3 none → Below wo.heap.size wo w3 := fun w3 hg => ((Below.refl wo.heap.size wo).alloc (Nat.le_refl _) _).grown hg (by simp) (fun k hk => by cases hk)
      have HBW := Lib.hid hbw; clear hbw
      go_wp2_with (at_builtin; refine wpList_append_own _ rfl (.tmp 28) (.tmp 32) _ rfl wo.heap.size 5 i0 (.int .u8 0) 1 1 Tryd.underlying38 hi hz0 hz1 hz2 rfl (by decide) (.slice none 0 0) 0 [] rfl ((World.ownsRow_nil wo wo.heap.size 5 1).alloc _) ⟨wo.heap.size, 0, none⟩ 1 1 [bv (head false k)] rfl rfl (fresh_one _ _ _) (one_cell _) (by unfold maxLen; omega) (by omega) (by simp) ?_; intro v2 w3 ho3 hg3 _)
      have hb3 := HBW.out _ hg3
      clear hg3
      go_loopw [6, 7] (fun v iv wq => ∃ (i n : Nat) (s : Int), i ≤ k ∧ s = (i : Int) - 1 ∧ iv = .int .i64 s ∧ n = 1 + (k - i) ∧ wq.ownsRow wo.heap.size 5 1 v n ((head false k :: ((digs M).take (k - i)).map (flip false)).map bv) ∧ Below wo.heap.size wo wq) (fun _ iv _ => (intOf iv + 1).toNat)
      case atStart => exact ⟨k, 1, _, by omega, rfl, rfl, by omega, by simpa using ho3, hb3⟩
      case round =>
        obtain ⟨i, n, s, hik, hs, rfl, hn, hoq, hbq⟩ := hrel
        clear ho3 hb3
        have hn9 : n ≤ 9 := by omega
        cases i with
        | zero =>
          have hs1 : ¬ 0 ≤ s := by omega
          obtain ⟨go_, co, hv, hg1, hg2, _, _⟩ := own_form hoq (by omega)
          subst hv
          have hsz := hb.size
          have hend : Made w (1 + (digs M).length) (head false (digs M).length :: (digs M).map (flip false)) (.returned (.slice (some ⟨go_, 0, none⟩) n co)) wr := by
            have hkl : (digs M).length = k := by rw [HDG2.out, List.length_reverse]; exact HK.out.symm
            rw [hkl]
            have hn2 : n = 1 + k := by omega
            rw [← hn2]
            have ho := own_more hoq hsz
            rw [Nat.sub_zero, List.take_of_length_le (by omega)] at ho
            exact ⟨go_, co, rfl, ho, hb.trans (hbq.mono hsz)⟩
          have HEND := Lib.hid hend; clear hend hn hs
          go_wp2
          go_ret
          exact HEND.out
        | succ j =>
          obtain rfl : s = (j : Int) := by omega
          obtain ⟨x, hx⟩ : ∃ x, ds[j]? = some x := ⟨ds[j]'(by rw [← HK.out]; omega), List.getElem?_eq_getElem _⟩
          obtain ⟨g, rfl, hgl, hcell⟩ := HD.out j x hx
          have hcq := (hbq.cell (p := ⟨g, j, none⟩) hgl).trans hcell
          have hfl : flip false x = x := rfl
          have htk : (digs M).take (k - j) = (digs M).take (k - (j + 1)) ++ [x] := by
            have e : k - j = (k - (j + 1)) + 1 := by omega
            have e2 : ds.reverse[k - (j + 1)]? = some x := by
              rw [List.getElem?_reverse (by rw [← HK.out]; omega), ← HK.out, show k - 1 - (k - (j + 1)) = j by omega]; exact hx
            rw [e, List.take_add_one, HDG2.out, e2]; rfl
          have HTK := Lib.hid htk; clear htk
          have HX := Lib.hid hx; clear hx
          have HN := Lib.hid hn; clear hn hs
          have hj0 : (0 : Int) ≤ (j : Int) := by omega
          have hjk : (j : Int) < (k : Int) := by omega
          have hx255 := u8_lt x
          have fin : ∀ v' w', w'.ownsRow wo.heap.size 5 1 v' (n + 1) ((head false k :: ((digs M).take (k - (j + 1))).map (flip false)).map bv ++ [bv (flip false x)]) → (wr.alloc (.cells #[bv (flip false x)] 5)).grownBy w' u6.ownBlock →
              ∃ (i n : Nat) (s : Int), i ≤ k ∧ s = (i : Int) - 1 ∧ Value.int .i64 ((j : Int) - 1) = .int .i64 s ∧ n = 1 + (k - i) ∧ w'.ownsRow wo.heap.size 5 1 v' n ((head false k :: ((digs M).take (k - i)).map (flip false)).map bv) ∧ Below wo.heap.size wo w' := by
            intro v' w' k4 k5
            refine ⟨j, n + 1, _, by omega, rfl, rfl, by have := HN.out; omega, ?_, ?_⟩
            · rw [HTK.out]; simpa using k4
            · exact (hbq.alloc hbq.size _).grown k5 (by have := hbq.size; simp; omega) (fun k hk => (hoq.lt k hk).1)
          have FIN := Lib.hid fin; clear fin
          go_wp2_with (at_builtin; refine wpList_append_own _ rfl (.tmp 54) (.tmp 56) _ rfl wo.heap.size 5 i0 (.int .u8 0) 1 1 Tryd.underlying38 hi hz0 hz1 hz2 rfl (by decide) _ n _ rfl (hoq.alloc _) ⟨wr.heap.size, 0, none⟩ 1 1 [bv (flip false x)] rfl rfl (fresh_one _ _ _) (one_cell _) (by unfold maxLen; omega) (by omega) (by have := hbq.size; simp; omega) ?_; intro v4 w4 ho4 hg4 _)
          go_roundw
          case rel => exact FIN.out _ _ ho4 hg4
          case measure => simp [intOf]
    · have hq0 : (0 : Int) < q := by omega
      obtain ⟨c, hc⟩ : ∃ c, c = UInt8.ofNat (q % 256) := ⟨_, rfl⟩
      have hdd : (q : Int) % 256 = (c.toNat : Int) := by rw [hc, toNat_ofNat]; omega
      have hdv : (q : Int) / 256 = ((q / 256 : Nat) : Int) := by omega
      have hds : digs M = digs (q / 256) ++ (ds ++ [c]).reverse := by rw [hdg, digs_pos (by omega), hc]; simp
      have hlt2 : q / 256 < q := by omega
      obtain ⟨r, hr⟩ : ∃ r, r = q / 256 := ⟨_, rfl⟩
      rw [← hr] at hdv hds hlt2
      have HR := Lib.hid hr; clear hr
      have HC := Lib.hid hc; clear hc
      have HDS := Lib.hid hds; clear hds
      have HDG := Lib.hid hdg; clear hdg
      go_wp2_with (at_builtin; refine wpList_append_own _ rfl (.tmp 16) (.tmp 20) _ rfl w.heap.size 5 i0 (.int .u8 0) 1 1 Tryd.underlying38 hi hz0 hz1 hz2 rfl (by decide) _ ds.length _ rfl (hown.alloc _) ⟨wr.heap.size, 0, none⟩ 1 1 [bv c] rfl rfl (fresh_one _ _ _) (one_cell _) (by unfold maxLen; omega) (by omega) (by have := hb.size; simp; omega) ?_; intro v' w1 hown1 hgrow1 _)
      go_roundw
      case rel => exact ⟨r, ds ++ [c], rfl, HDS.out, by omega, by simpa using hown1, (hb.alloc hb.size _).grown hgrow1 (by have := hb.size; simp; omega) (fun k hk => (hown.lt k hk).1)⟩
      case measure => simp [intOf]; omega

set_option maxRecDepth 100000 in
set_option maxHeartbeats 1000000 in
theorem refInt_neg (M : Nat) (w : World) (h : M < 9223372036854775808) :
    Calls Tryd.prog 81 #[.int .i64 (-1 - M)] w (Made w (1 + (digs M).length) (head true (digs M).length :: (digs M).map (flip true))) := by
  have hlt : (-1 - (M : Int)) < 0 := by omega
  have hmm : (-1 - (-1 - (M : Int))) = M := by omega
  obtain ⟨i0, hi, hz0, hz1, hz2⟩ := info_parts byte_info
  have h8 : (digs M).length ≤ 8 := digs_length_le 8 _ (by omega)
  go_enter Tryd.func81, Tryd.ntmps81
  go_wp2
  go_loopw [3, 4] (fun mv v wr => ∃ (q : Nat) (ds : List UInt8), mv = .int .i64 (q : Int) ∧ digs M = digs q ++ ds.reverse ∧ q ≤ M ∧ wr.ownsRow w.heap.size 5 1 v ds.length (ds.map bv) ∧ Below w.heap.size w wr) (fun mv _ _ => (intOf mv).toNat)
  case atStart => exact ⟨M, [], rfl, by simp, by omega, World.ownsRow_nil _ _ _ _, Below.refl _ _⟩
  case round =>
    obtain ⟨q, ds, rfl, hdg, hqM, hown, hb⟩ := hrel
    have hlen : ds.length ≤ 8 := by have := congrArg List.length hdg; simp at this; omega
    rcases Nat.eq_zero_or_pos q with h0 | h0
    · subst h0
      obtain ⟨wo, rfl⟩ : ∃ wo : World, wo = wr := ⟨_, rfl⟩
      have hdg2 : digs M = ds.reverse := by rw [hdg, digs_zero]; rfl
      have HDG := Lib.hid hdg; clear hdg
      obtain ⟨k, hk⟩ : ∃ k, k = ds.length := ⟨_, rfl⟩
      have hk8 : k ≤ 8 := by omega
      rw [← hk] at hown
      obtain ⟨D, cD, rfl, hD⟩ : ∃ D cD, u4 = .slice D k cD ∧ ∀ j x, ds[j]? = some x → ∃ g, D = some ⟨g, 0, none⟩ ∧ g < wo.heap.size ∧ wo.cell? ⟨g, j, none⟩ = some (.int .u8 (x.toNat : Int)) := by
        rcases hown.2 with ⟨rfl, hk0⟩ | ⟨g, cap, cur, rfl, _⟩
        · exact ⟨none, 0, by rw [hk0], fun j x hx => by rw [List.eq_nil_of_length_eq_zero (by omega : ds.length = 0)] at hx; simp at hx⟩
        · refine ⟨_, _, rfl, fun j x hx => ⟨g, rfl, (hown.lt _ rfl).2, ?_⟩⟩
          have hj : j < ds.length := (List.getElem?_eq_some_iff.1 hx).1
          rw [hown.cellAt j (by omega), List.getElem?_map, hx]; rfl
      have hhd : (127 : Int) - (k : Int) = ((head true k).toNat : Int) := by simp [head]; omega
      have HK := Lib.hid hk; clear hk
      have HDG2 := Lib.hid hdg2; clear hdg2
      have HD := Lib.hid hD; clear hD
      have hbw : ∀ w3 : World, (wo.alloc (.cells #[bv (head true k)] 5)).grownBy w3 none → Below wo.heap.size wo w3 := fun w3 hg => ((Below.refl wo.heap.size wo).alloc (Nat.le_refl _) _).grown hg (by simp) (fun k hk => by cases hk)
      have HBW := Lib.hid hbw; clear hbw
      go_wp2_with (at_builtin; refine wpList_append_own _ rfl (.tmp 34) (.tmp 38) _ rfl wo.heap.size 5 i0 (.int .u8 0) 1 1 Tryd.underlying38 hi hz0 hz1 hz2 rfl (by decide) (.slice none 0 0) 0 [] rfl ((World.ownsRow_nil wo wo.heap.size 5 1).alloc _) ⟨wo.heap.size, 0, none⟩ 1 1 [bv (head true k)] rfl rfl (fresh_one _ _ _) (one_cell _) (by unfold maxLen; omega) (by omega) (by simp) ?_; intro v2 w3 ho3 hg3 _)
      have hb3 := HBW.out _ hg3
      clear hg3
      go_loopw [6, 7] (fun v iv wq => ∃ (i n : Nat) (s : Int), i ≤ k ∧ s = (i : Int) - 1 ∧ iv = .int .i64 s ∧ n = 1 + (k - i) ∧ wq.ownsRow wo.heap.size 5 1 v n ((head true k :: ((digs M).take (k - i)).map (flip true)).map bv) ∧ Below wo.heap.size wo wq) (fun _ iv _ => (intOf iv + 1).toNat)
      case atStart => exact ⟨k, 1, _, by omega, rfl, rfl, by omega, by simpa using ho3, hb3⟩
      case round =>
        obtain ⟨i, n, s, hik, hs, rfl, hn, hoq, hbq⟩ := hrel
        clear ho3 hb3
        have hn9 : n ≤ 9 := by omega
        cases i with
        | zero =>
          have hs1 : ¬ 0 ≤ s := by omega
          obtain ⟨go_, co, hv, hg1, hg2, _, _⟩ := own_form hoq (by omega)
          subst hv
          have hsz := hb.size
          have hend : Made w (1 + (digs M).length) (head true (digs M).length :: (digs M).map (flip true)) (.returned (.slice (some ⟨go_, 0, none⟩) n co)) wr := by
            have hkl : (digs M).length = k := by rw [HDG2.out, List.length_reverse]; exact HK.out.symm
            rw [hkl]
            have hn2 : n = 1 + k := by omega
            rw [← hn2]
            have ho := own_more hoq hsz
            rw [Nat.sub_zero, List.take_of_length_le (by omega)] at ho
            exact ⟨go_, co, rfl, ho, hb.trans (hbq.mono hsz)⟩
          have HEND := Lib.hid hend; clear hend hn hs
          go_wp2
          go_ret
          exact HEND.out
        | succ j =>
          obtain rfl : s = (j : Int) := by omega
          obtain ⟨x, hx⟩ : ∃ x, ds[j]? = some x := ⟨ds[j]'(by rw [← HK.out]; omega), List.getElem?_eq_getElem _⟩
          obtain ⟨g, rfl, hgl, hcell⟩ := HD.out j x hx
          have hcq := (hbq.cell (p := ⟨g, j, none⟩) hgl).trans hcell
          have hfl : (255 : Int) - (x.toNat : Int) = ((flip true x).toNat : Int) := by simp only [flip, if_true, sub_toNat]; have := u8_lt x; omega
          have htk : (digs M).take (k - j) = (digs M).take (k - (j + 1)) ++ [x] := by
            have e : k - j = (k - (j + 1)) + 1 := by omega
            have e2 : ds.reverse[k - (j + 1)]? = some x := by
              rw [List.getElem?_reverse (by rw [← HK.out]; omega), ← HK.out, show k - 1 - (k - (j + 1)) = j by omega]; exact hx
            rw [e, List.take_add_one, HDG2.out, e2]; rfl
          have HTK := Lib.hid htk; clear htk
          have HX := Lib.hid hx; clear hx
          have HN := Lib.hid hn; clear hn hs
          have hj0 : (0 : Int) ≤ (j : Int) := by omega
          have hjk : (j : Int) < (k : Int) := by omega
          have hx255 := u8_lt x
          have fin : ∀ v' w', w'.ownsRow wo.heap.size 5 1 v' (n + 1) ((head true k :: ((digs M).take (k - (j + 1))).map (flip true)).map bv ++ [bv (flip true x)]) → (wr.alloc (.cells #[bv (flip true x)] 5)).grownBy w' u6.ownBlock →
              ∃ (i n : Nat) (s : Int), i ≤ k ∧ s = (i : Int) - 1 ∧ Value.int .i64 ((j : Int) - 1) = .int .i64 s ∧ n = 1 + (k - i) ∧ w'.ownsRow wo.heap.size 5 1 v' n ((head true k :: ((digs M).take (k - i)).map (flip true)).map bv) ∧ Below wo.heap.size wo w' := by
            intro v' w' k4 k5
            refine ⟨j, n + 1, _, by omega, rfl, rfl, by have := HN.out; omega, ?_, ?_⟩
            · rw [HTK.out]; simpa using k4
            · exact (hbq.alloc hbq.size _).grown k5 (by have := hbq.size; simp; omega) (fun k hk => (hoq.lt k hk).1)
          have FIN := Lib.hid fin; clear fin
          go_wp2_with (at_builtin; refine wpList_append_own _ rfl (.tmp 54) (.tmp 56) _ rfl wo.heap.size 5 i0 (.int .u8 0) 1 1 Tryd.underlying38 hi hz0 hz1 hz2 rfl (by decide) _ n _ rfl (hoq.alloc _) ⟨wr.heap.size, 0, none⟩ 1 1 [bv (flip true x)] rfl rfl (fresh_one _ _ _) (one_cell _) (by unfold maxLen; omega) (by omega) (by have := hbq.size; simp; omega) ?_; intro v4 w4 ho4 hg4 _)
          go_roundw
          case rel => exact FIN.out _ _ ho4 hg4
          case measure => simp [intOf]
    · have hq0 : (0 : Int) < q := by omega
      obtain ⟨c, hc⟩ : ∃ c, c = UInt8.ofNat (q % 256) := ⟨_, rfl⟩
      have hdd : (q : Int) % 256 = (c.toNat : Int) := by rw [hc, toNat_ofNat]; omega
      have hdv : (q : Int) / 256 = ((q / 256 : Nat) : Int) := by omega
      have hds : digs M = digs (q / 256) ++ (ds ++ [c]).reverse := by rw [hdg, digs_pos (by omega), hc]; simp
      have hlt2 : q / 256 < q := by omega
      obtain ⟨r, hr⟩ : ∃ r, r = q / 256 := ⟨_, rfl⟩
      rw [← hr] at hdv hds hlt2
      have HR := Lib.hid hr; clear hr
      have HC := Lib.hid hc; clear hc
      have HDS := Lib.hid hds; clear hds
      have HDG := Lib.hid hdg; clear hdg
      go_wp2_with (at_builtin; refine wpList_append_own _ rfl (.tmp 16) (.tmp 20) _ rfl w.heap.size 5 i0 (.int .u8 0) 1 1 Tryd.underlying38 hi hz0 hz1 hz2 rfl (by decide) _ ds.length _ rfl (hown.alloc _) ⟨wr.heap.size, 0, none⟩ 1 1 [bv c] rfl rfl (fresh_one _ _ _) (one_cell _) (by unfold maxLen; omega) (by omega) (by have := hb.size; simp; omega) ?_; intro v' w1 hown1 hgrow1 _)
      go_roundw
      case rel => exact ⟨r, ds ++ [c], rfl, HDS.out, by omega, by simpa using hown1, (hb.alloc hb.size _).grown hgrow1 (by have := hb.size; simp; omega) (fun k hk => (hown.lt k hk).1)⟩
      case measure => simp [intOf]; omega
/-- custodyref01.Int, for every integer. -/
theorem refInt_any (n : Int) (w : World) (h : -9223372036854775808 ≤ n ∧ n ≤ 9223372036854775807) :
    Calls Tryd.prog 81 #[.int .i64 n] w (Made w (enc n).length (enc n)) := by
  rw [enc_length]
  unfold enc magn
  by_cases hn : n < 0
  · obtain ⟨m, rfl⟩ : ∃ m : Nat, n = -1 - m := ⟨(-1 - n).toNat, by omega⟩
    have e : (-1 - (-1 - (m : Int))).toNat = m := by omega
    rw [if_pos hn, e, decide_eq_true hn]
    exact refInt_neg m w (by omega)
  · obtain ⟨m, rfl⟩ : ∃ m : Nat, n = m := ⟨n.toNat, by omega⟩
    rw [if_neg hn, Int.toNat_natCast, decide_eq_false hn]
    exact refInt_pos m w (by omega)

end Wire
end Go.Proofs.YthpkeaafgabjiaaDoor

/- The reference's encoding of a string. Condition: it takes at most 2^47 bytes. -/
namespace Go.Proofs.YthpkeaafgabjiaaDoor
open Go.RowKit
namespace Wire

theorem convW (x : List UInt8) (W : World) : (convert 9 38 (.string ⟨x.toArray⟩)).run Tryd.prog W = .ok (.slice (some ⟨W.heap.size, 0, none⟩) x.length (grownCap W x.length 0 5)) (Lib.bytesWorld W 5 ⟨x.toArray⟩) :=
  Lib.run_convert_string_bytes (P := Tryd.prog) W 9 38 5 ⟨x.toArray⟩ (u := .string) Tryd.underlying9 Tryd.underlying38 Tryd.underlying5
theorem bytesWB (W : World) (x : List UInt8) : Below W.heap.size W (Lib.bytesWorld W 5 ⟨x.toArray⟩) :=
  ⟨rfl, rfl, rfl, by rw [Lib.bytesWorld_size]; omega, fun k hk => Lib.bytesWorld_at_old W 5 ⟨x.toArray⟩ k hk⟩
theorem bytesW_at (W : World) (x : List UInt8) (j : Nat) (u : Value) (hu : (x.map bv)[j]? = some u) : (Lib.bytesWorld W 5 ⟨x.toArray⟩).cell? ((⟨W.heap.size, 0, none⟩ : Addr).add j) = some u := by
  have hj : j < x.length := by
    have := (List.getElem?_eq_some_iff.1 hu).1
    simpa using this
  have hadd : (⟨W.heap.size, 0, none⟩ : Addr).add j = ⟨W.heap.size, j, none⟩ := by unfold Addr.add; split <;> simp_all
  rw [hadd, Lib.bytesWorld_cell W 5 ⟨x.toArray⟩ j (by simpa [ByteArray.size] using hj)]
  simp [hj] at hu
  simp [List.getD, hj, ← hu, bv]

set_option maxRecDepth 100000 in
set_option maxHeartbeats 400000 in
theorem refBytes_any (s : List UInt8) (w : World) (h : (encStr s).length ≤ 140737488355328) :
    Calls Tryd.prog 66 #[.string ⟨s.toArray⟩] w (Made w (encStr s).length (encStr s)) := by
  obtain ⟨i0, hi, hz0, hz1, hz2⟩ := info_parts byte_info
  have hln : (encStr s).length = (enc (s.length : Int)).length + s.length := by simp [encStr]
  have hsz : (⟨s.toArray⟩ : ByteArray).size = s.length := by simp [ByteArray.size]
  have HI := Lib.hid (refInt_any (s.length : Int) w (by omega))
  have hcv := convW s
  have HEP := Lib.hid (enc_length (s.length : Int))
  obtain ⟨E, hE⟩ : ∃ E, E = enc (s.length : Int) := ⟨_, rfl⟩
  have hES : encStr s = E ++ s := by rw [hE]; rfl
  have hpos : 0 < E.length := by rw [hE, HEP.out]; omega
  rw [hln, ← hE] at h
  rw [← hE] at HI hln
  rw [hES]
  have HLN : Hid ((E ++ s).length = E.length + s.length) := Lib.hid (by simp)
  rw [HLN.out]
  clear hE hES hln HEP HLN
  go_enter Tryd.func66, Tryd.ntmps66
  go_wp2_with (first
    | (go_at_call 81; (with_reducible refine HI.out.mono ?_); rintro e w1 ⟨g, cap, rfl, hown, hb⟩)
    | (at_builtin; have hb2 := bytesWB w1 s; refine wpList_append_own _ rfl (.tmp 5) (.tmp 7) _ rfl w.heap.size 5 i0 (.int .u8 0) 1 1 Tryd.underlying38 hi hz0 hz1 hz2 rfl (by decide) _ _ _ rfl (own_below hown hb2) ⟨w1.heap.size, 0, none⟩ s.length _ (s.map bv) rfl (by simp) (bytesW_at w1 s) (bytes_one _) (by unfold maxLen; omega) (by omega) (Nat.le_trans hb.size hb2.size) ?_; intro v' w2 hown2 hgrow2 _))
  go_ret
  obtain ⟨g', cap', rfl, -⟩ := own_form hown2 (by omega)
  refine ⟨g', cap', rfl, by rw [List.map_append]; exact hown2, ?_⟩
  exact (hb.trans (hb2.mono hb.size)).grown hgrow2 (Nat.le_trans hb.size hb2.size) (fun k hk => (hown.lt k hk).1)

end Wire
end Go.Proofs.YthpkeaafgabjiaaDoor

