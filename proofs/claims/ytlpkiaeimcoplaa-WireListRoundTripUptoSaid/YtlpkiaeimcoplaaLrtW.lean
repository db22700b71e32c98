/- The walk of the statement that what was encoded is decoded again, whatever follows it. Condition: the texts, and their number, add up to at most 2^62; the other arguments are of at most 2^47 elements. -/
import Derived.Test.YtlpkiaeimcoplaaEncW
import Derived.Test.YtlpkiaeimcoplaaTail
import Derived.Test.YtlpkiaeimcoplaaDec
namespace Go.Proofs.Ytlpkiaeimcoplaa
open Go.RowKit
namespace Wire

theorem decDig_app (d t : List UInt8) (h : d.length = 16) : decDig (d ++ t) = .ok (d, d.length) := by
  unfold decDig
  rw [h, ← h, List.take_left]

set_option maxRecDepth 100000 in
set_option maxHeartbeats 4000000 in
theorem listRound_any (s : List UInt8) (l : List Int) (x d : List (List UInt8)) (ys : List UInt8) (c c2 c3 n4 c4 : Nat) (A A2 A3 A4 : Option Addr) (w : World)
    (hs : s.length ≤ 140737488355328)
    (hl : Lies w w.heap.size 1 A l.length c (l.map iv)) (hr : ∀ x ∈ l, -9223372036854775808 ≤ x ∧ x ≤ 9223372036854775807) (hn : l.length ≤ 140737488355328)
    (hx : Lies w w.heap.size 1 A2 x.length c2 (x.map sv)) (ht : x.length + total x ≤ 4611686018427387904)
    (hd : Lies w w.heap.size 16 A3 d.length c3 (digCells d)) (h16 : ∀ y ∈ d, y.length = 16) (hn3 : d.length ≤ 140737488355328)
    (hy : Lies w w.heap.size 1 A4 n4 c4 (ys.map bv)) (hn4 : n4 ≤ 140737488355328) :
    Calls Try.prog 8 #[.string ⟨s.toArray⟩, .slice A l.length c, .slice A2 x.length c2, .slice A3 d.length c3, .slice A4 n4 c4] w (Yes w) := by
  have hc1 : c ≤ 9223372036854775807 := by have := hl.most; unfold maxLen at this; omega
  have hc2 : c2 ≤ 9223372036854775807 := by have := hx.most; unfold maxLen at this; omega
  have hc3 : c3 ≤ 9223372036854775807 := by have := hd.most; unfold maxLen at this; omega
  have hc4 : c4 ≤ 9223372036854775807 := by have := hy.most; unfold maxLen at this; omega
  have hle1 := hl.le
  have hle2 := hx.le
  have hle3 := hd.le
  have hle4 := hy.le
  have hsz : (⟨s.toArray⟩ : ByteArray).size = s.length := by simp [ByteArray.size]
  by_cases h2 : (2000 : Int) < s.length + l.length + d.length + n4
  · go_enter Try.func8, Try.ntmps8
    go_wp2_with (go_at_call 12; refine (sanity_any _).mono ?_; rintro e w1 ⟨rfl, hb⟩)
    go_ret
    exact ⟨rfl, hb⟩
  · by_cases h3 : x.length + total x ≤ 2000
    · have k1 := encStr_le s (by omega)
      have k2 := encInts_le l (by omega) hr
      have k3 := encStrs_le x (by omega)
      have k4 := encDigs_le d (by omega) h16
      obtain ⟨pS, hpS⟩ : ∃ p, p = (encStr s).length := ⟨_, rfl⟩
      obtain ⟨pL, hpL⟩ : ∃ p, p = (encList enc l).length := ⟨_, rfl⟩
      obtain ⟨pX, hpX⟩ : ∃ p, p = (encList encStr x).length := ⟨_, rfl⟩
      obtain ⟨pD, hpD⟩ : ∃ p, p = (encList (fun d => d) d).length := ⟨_, rfl⟩
      rw [← hpS] at k1
      rw [← hpL] at k2
      rw [← hpX] at k3
      rw [← hpD] at k4
      have b1 : pS ≤ 20000 := by omega
      have b2 : pL ≤ 20000 := by omega
      have b3 : pX ≤ 50000 := by omega
      have b4 : pD ≤ 50000 := by omega
      have p1 : 1 ≤ pS := k1.2
      have p2 : 1 ≤ pL := k2.2
      have p3 : 1 ≤ pX := k3.2
      have p4 : 1 ≤ pD := k4.2
      have bn : n4 ≤ 2000 := by omega
      have bs : s.length ≤ 2000 := by omega
      clear k1 k2 k3 k4
      have FEW := Lib.hid (few_any x x.length c2 A2 w hx ht)
      rw [decide_eq_true h3] at FEW
      have CB : ∀ W : World, Hid (Calls Try.prog 16 #[.string ⟨s.toArray⟩] W (Made W pS (encStr s))) := fun W => Lib.hid (by rw [hpS]; exact bytes_any s W (by omega))
      have CL : ∀ W : World, Below w.heap.size w W → Calls Try.prog 18 #[.slice A l.length c] W (Made W pL (encList enc l)) := fun W hb => by rw [hpL]; exact ints_any l _ c A W (hl.on hb) (by omega) hr
      have CX : ∀ W : World, Below w.heap.size w W → Calls Try.prog 20 #[.slice A2 x.length c2] W (Made W pX (encList encStr x)) := fun W hb => by rw [hpX]; exact strings_any x _ c2 A2 W (hx.on hb) (by omega)
      have CD : ∀ W : World, Below w.heap.size w W → Calls Try.prog 22 #[.slice A3 d.length c3] W (Made W pD (encList (fun d => d) d)) := fun W hb => by rw [hpD]; exact digests_any d _ c3 A3 W (hd.on hb) rfl h16 (by omega)
      have D1 := Lib.hid (show decStr (encStr s ++ ys) = .ok (s, pS) by rw [hpS]; exact decStr_enc s ys (by omega))
      have D2 := Lib.hid (show decList dec 1 (encList enc l ++ ys) = .ok (l, pL) by rw [hpL]; exact decList_enc (g := dec) (f := enc) (size := 1) l ys (by omega) (by omega) (fun x hx t => dec_enc (hr x hx) t) (fun x hx => (enc_length_le (hr x hx)).1))
      have D3 := Lib.hid (show decList decStr 1 (encList encStr x ++ ys) = .ok (x, pX) by rw [hpX]; exact decList_enc (g := decStr) (f := encStr) (size := 1) x ys (by omega) (by omega) (fun y hy t => decStr_enc y t (by have := total_mem hy; omega)) (fun y hy => (encStr_le y (by have := total_mem hy; omega)).2))
      have D4 := Lib.hid (show decList decDig 16 (encList (fun d => d) d ++ ys) = .ok (d, pD) by rw [hpD]; exact decList_enc (g := decDig) (f := fun d => d) (size := 16) d ys (by omega) (by omega) (fun y hy t => decDig_app y t (h16 y hy)) (fun y hy => by rw [h16 y hy]; omega))
      have GB : ∀ (W : World) (A : Option Addr) (n c : Nat), Lies W W.heap.size 1 A n c ((encStr s ++ ys).map bv) → Calls Try.prog 26 #[.slice A n c] W
          fun e w' => e = .returned (.tuple #[.string ⟨s.toArray⟩, .int .i64 (pS : Int), .int .i64 0]) ∧ W = w' := fun W A n c h => str_ok h D1.out
      have GB := Lib.hid GB
      have CL := Lib.hid CL
      have CX := Lib.hid CX
      have CD := Lib.hid CD
      have HP1 := Lib.hid hpS; clear hpS
      have HP2 := Lib.hid hpL; clear hpL
      have HP3 := Lib.hid hpX; clear hpX
      have HP4 := Lib.hid hpD; clear hpD
      have hqs : ((⟨s.toArray⟩ : ByteArray).toList == (⟨s.toArray⟩ : ByteArray).toList) = true := by simp
      have hqs2 : (s == s) = true := by simp
      have zb := Below.refl w.heap.size w
      go_enter Try.func8, Try.ntmps8
      go_wp2_with (first
        | (go_at_call 11; (with_reducible refine FEW.out.mono ?_); rintro e w1 ⟨rfl, rfl⟩)
        | (go_at_call 16; (with_reducible refine (CB _).out.mono ?_); rintro e w1 hM; obtain ⟨g1, cap1, rfl, hb, q1⟩ := made_row hM; clear hM; replace zb := bc zb hb; clear hb; have hcap1 := q1.le; have hm1 := q1.most)
        | (go_at_call 18; (with_reducible refine (CL.out _ zb).mono ?_); rintro e w2 hM; obtain ⟨g2, cap2, rfl, hb, q2⟩ := made_row hM; clear hM; replace zb := bc zb hb; replace q1 := q1.on hb; clear hb; have hcap2 := q2.le; have hm2 := q2.most)
        | (go_at_call 22; (with_reducible refine (CD.out _ zb).mono ?_); rintro e w3 hM; obtain ⟨g3, cap3, rfl, hb, q3⟩ := made_row hM; clear hM; replace zb := bc zb hb; replace q1 := q1.on hb; replace q2 := q2.on hb; clear hb; have hcap3 := q3.le; have hm3 := q3.most)
        | (go_at_call 20; (with_reducible refine (CX.out _ zb).mono ?_); rintro e w4 hM; obtain ⟨g4, cap4, rfl, hb, q4⟩ := made_row hM; clear hM; replace zb := bc zb hb; replace q1 := q1.on hb; replace q2 := q2.on hb; replace q3 := q3.on hb; clear hb; have hcap4 := q4.le; have hm4 := q4.most)
        | (at_builtin; refine wpList_append_tail rfl (.tmp 59) (.tmp 60) rfl ⟨g1, 0, none⟩ pS (encStr s) rfl q1.fits A4 n4 c4 ys rfl (hy.on zb) (by omega) ?_; intro A5 c5 w5 r5 hb; replace zb := bc zb hb; replace q2 := q2.on hb; replace q3 := q3.on hb; replace q4 := q4.on hb; clear hb)
        | (go_at_call 26; (with_reducible refine (GB.out _ _ _ _ r5).mono ?_); rintro e w6 ⟨rfl, rfl⟩)
        | (at_builtin; refine wpList_append_tail rfl (.tmp 72) (.tmp 73) rfl ⟨g2, 0, none⟩ pL (encList enc l) rfl q2.fits A4 n4 c4 ys rfl (hy.on zb) (by omega) ?_; intro A7 c7 w7 r7 hb; replace zb := bc zb hb; replace q3 := q3.on hb; replace q4 := q4.on hb; clear hb)
        | (go_at_call 28; (with_reducible refine (getInts_ok r7 (by omega) D2.out).mono ?_); rintro e w8 ⟨g8, rfl, o8, hb⟩; replace zb := bc zb hb; have r8 := lies_own o8; clear o8; replace q3 := q3.on hb; replace q4 := q4.on hb; clear hb)
        | (at_builtin; refine wpList_append_tail rfl (.tmp 85) (.tmp 86) rfl ⟨g3, 0, none⟩ pD (encList (fun d => d) d) rfl q3.fits A4 n4 c4 ys rfl (hy.on zb) (by omega) ?_; intro A9 c9 w9 r9 hb; replace zb := bc zb hb; replace q4 := q4.on hb; replace r8 := r8.on hb; clear hb)
        | (go_at_call 34; (with_reducible refine (getDigests_ok r9 (by omega) D4.out).mono ?_); rintro e w10 ⟨g10, rfl, o10, hb⟩; replace zb := bc zb hb; have r10 := lies_own o10; clear o10; replace q4 := q4.on hb; replace r8 := r8.on hb; clear hb)
        | (at_builtin; refine wpList_append_tail rfl (.tmp 98) (.tmp 99) rfl ⟨g4, 0, none⟩ pX (encList encStr x) rfl q4.fits A4 n4 c4 ys rfl (hy.on zb) (by omega) ?_; intro A11 c11 w11 r11 hb; replace zb := bc zb hb; replace r8 := r8.on hb; replace r10 := r10.on hb; clear hb)
        | (go_at_call 31; (with_reducible refine (getStrings_ok r11 (by omega) D3.out).mono ?_); rintro e w12 ⟨g12, rfl, o12, hb⟩; replace zb := bc zb hb; have r12 := lies_own o12; clear o12; replace r8 := r8.on hb; replace r10 := r10.on hb; clear hb)
        | (go_at_call 12; (with_reducible refine (sanity_any _).mono ?_); rintro e w13 ⟨rfl, hb⟩; replace zb := bc zb hb; replace r8 := r8.on hb; replace r10 := r10.on hb; replace r12 := r12.on hb; clear hb)
        | (go_at_call 33; (with_reducible refine (sameT _ _ _ _ _ _ r12 (hx.on zb)).mono ?_); rintro e w14 ⟨rfl, hb⟩; replace zb := bc zb hb; replace r8 := r8.on hb; replace r10 := r10.on hb; clear hb)
        | (go_at_call 30; (with_reducible refine (sameI _ _ _ _ _ _ r8 (hl.on zb)).mono ?_); rintro e w15 ⟨rfl, hb⟩; replace zb := bc zb hb; replace r10 := r10.on hb; clear hb)
        | (go_at_call 36; (with_reducible refine (sameD _ _ _ _ _ _ r10 (hd.on zb) h16).mono ?_); rintro e w16 ⟨rfl, hb⟩; replace zb := bc zb hb; clear hb))
      go_ret
      exact ⟨rfl, zb⟩
    · have FEW := Lib.hid (few_any x x.length c2 A2 w hx ht)
      rw [decide_eq_false h3] at FEW
      go_enter Try.func8, Try.ntmps8
      go_wp2_with (first
        | (go_at_call 11; (with_reducible refine FEW.out.mono ?_); rintro e w1 ⟨rfl, rfl⟩)
        | (go_at_call 12; refine (sanity_any _).mono ?_; rintro e w1 ⟨rfl, hb⟩))
      go_ret
      exact ⟨rfl, hb⟩

end Wire
end Go.Proofs.Ytlpkiaeimcoplaa
