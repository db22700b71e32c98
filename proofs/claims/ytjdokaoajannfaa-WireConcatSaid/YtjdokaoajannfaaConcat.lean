/- The walk of the statement on the encodings of a text and a list of integers, written one after the other. -/
import Derived.Test.YtjdokaoajannfaaTail
import Derived.Test.YtjdokaoajannfaaNumC
namespace Go.Proofs.Ytjdokaoajannfaa
open Go.RowKit
namespace Wire

set_option maxRecDepth 100000 in
set_option maxHeartbeats 2000000 in
theorem concat_any (s : List UInt8) (l : List Int) (n c : Nat) (A : Option Addr) (w : World) (hl : Lies w w.heap.size 1 A n c (l.map iv)) (hr : ∀ x ∈ l, -9223372036854775808 ≤ x ∧ x ≤ 9223372036854775807)
    (hs : s.length ≤ 140737488355328) (hn : n ≤ 140737488355328) :
    Calls Try.prog 10 #[.string ⟨s.toArray⟩, .slice A n c] w (Yes w) := by
  obtain ⟨i0, hi, hz0, hz1, hz2⟩ := info_parts byte_info
  have hmost : c ≤ 9223372036854775807 := by have := hl.most; unfold maxLen at this; omega
  have hle := hl.le
  have hnl : l.length = n := by have := hl.len; simpa using this
  by_cases h2 : (2000 : Int) < s.length + n
  · have HNL := Lib.hid hnl; clear hnl
    go_enter Try.func10, Try.ntmps10
    go_wp2_with (go_at_call 12; refine (sanity_any _).mono ?_; rintro e w1 ⟨rfl, hb⟩)
    go_ret
    exact ⟨rfl, hb⟩
  · have hp := encStr_le s (by omega)
    have hq := encInts_le l (by omega) hr
    obtain ⟨p, hpd⟩ : ∃ p, p = (encStr s).length := ⟨_, rfl⟩
    obtain ⟨q, hqd⟩ : ∃ q, q = (encList enc l).length := ⟨_, rfl⟩
    rw [← hpd] at hp
    rw [← hqd, hnl] at hq
    have hp1 := hp.1
    have hp2 := hp.2
    have hq1 := hq.1
    have hq2 := hq.2
    clear hp hq
    have cB : Calls Try.prog 16 #[.string ⟨s.toArray⟩] w (Made w p (encStr s)) := by rw [hpd]; exact bytes_any s w (by omega)
    have cI : ∀ W : World, Below w.heap.size w W → Calls Try.prog 18 #[.slice A n c] W (Made W q (encList enc l)) := fun W hb => by
      rw [hqd]; exact ints_any l n c A W (hl.on hb) (by omega) hr
    have d1 : decStr (encStr s ++ encList enc l) = .ok (s, p) := by rw [hpd]; exact decStr_enc s _ (by omega)
    have d2 : decList dec 1 ((encStr s ++ encList enc l).drop p) = .ok (l, q) := by
      rw [hpd, List.drop_left, hqd]
      have := decList_enc (g := dec) (f := enc) (size := 1) l [] (by omega) (by omega) (fun x hx t => dec_enc (hr x hx) t) (fun x hx => (enc_length_le (hr x hx)).1)
      rwa [List.append_nil] at this
    have hnn : n ≤ 2000 := by omega
    have hss : s.length ≤ 2000 := by omega
    have hqs : ((⟨s.toArray⟩ : ByteArray).toList == (⟨s.toArray⟩ : ByteArray).toList) = true := by simp
    have hqs2 : (s == s) = true := by simp
    have CB := Lib.hid cB; clear cB
    have CI := Lib.hid cI; clear cI
    have D1 := Lib.hid d1; clear d1
    have D2 := Lib.hid d2; clear d2
    have HP := Lib.hid hpd; clear hpd
    have HQ := Lib.hid hqd; clear hqd
    have same : ∀ (W : World) (g : Nat), Lies W W.heap.size 1 (some ⟨g, 0, none⟩) n n (l.map iv) → Below w.heap.size w W → Calls Try.prog 30 #[.slice (some ⟨g, 0, none⟩) n n, .slice A n c] W (Yes W) := fun W g h hb =>
      (same_ints _ _ _ _ _ _ _ _ _ _ h (hl.on hb)).mono fun e w' hh => yes_of hh (by simp) (Below.refl _ _)
    have SAME := Lib.hid same; clear same
    have HNL := Lib.hid hnl; clear hnl
    have ints : ∀ (W : World) (g cap : Nat), Lies W W.heap.size 1 (some ⟨g, 0, none⟩) (p + q) cap ((encStr s ++ encList enc l).map bv) → Calls Try.prog 28 #[.slice (some ⟨g, p, none⟩) q (cap - p)] W
        fun e w' => ∃ g', e = .returned (.tuple #[.slice (some ⟨g', 0, none⟩) n n, .int .i64 (q : Int), .int .i64 0]) ∧ Lies w' w'.heap.size 1 (some ⟨g', 0, none⟩) n n (l.map iv) ∧ Below W.heap.size W w' := fun W g cap h => by
      have h3 := h.drop (k := p) (by omega)
      rw [Nat.zero_add, Nat.add_sub_cancel_left] at h3
      refine (getInts_ok h3 (by omega) D2.out).mono fun e w' ⟨g', he, ho, hb⟩ => ?_
      rw [HNL.out] at he ho
      exact ⟨g', he, lies_own ho, hb⟩
    have INTS := Lib.hid ints; clear ints
    have str : ∀ (W : World) (g cap : Nat), Lies W W.heap.size 1 (some ⟨g, 0, none⟩) (p + q) cap ((encStr s ++ encList enc l).map bv) → Calls Try.prog 26 #[.slice (some ⟨g, 0, none⟩) (p + q) cap] W
        fun e w' => e = .returned (.tuple #[.string ⟨s.toArray⟩, .int .i64 (p : Int), .int .i64 0]) ∧ W = w' := fun W g cap h => str_ok h D1.out
    have STR := Lib.hid str; clear str
    have fin : ∀ (w1 w2 : World) (g1 cap1 : Nat) (xs : List Value) (v' : Value) (w3 : World), Below w.heap.size w w1 → w1.ownsRow w.heap.size 5 1 (.slice (some ⟨g1, 0, none⟩) p cap1) p xs → Below w1.heap.size w1 w2 →
        w3.ownsRow w.heap.size 5 1 v' (p + q) ((encStr s).map bv ++ (encList enc l).map bv) → w2.grownBy w3 (some g1) →
        ∃ g3 cap3, v' = .slice (some ⟨g3, 0, none⟩) (p + q) cap3 ∧ Lies w3 w3.heap.size 1 (some ⟨g3, 0, none⟩) (p + q) cap3 ((encStr s ++ encList enc l).map bv) ∧ Below w.heap.size w w3 ∧ ¬ (cap3 : Int) = p ∧ p + q ≤ cap3 ∧ cap3 ≤ 9223372036854775807 := by
      intro w1 w2 g1 cap1 xs v' w3 k1 k2 k3 k4 k5
      obtain ⟨g3, cap3, rfl, hl3⟩ := lies_row k4 (by omega)
      have h1 := hl3.le
      have h2 := hl3.most
      have s1 := k1.size
      have s2 := k3.size
      rw [← List.map_append] at hl3
      refine ⟨g3, cap3, rfl, hl3, (bc k1 k3).grown k5 (by omega) (fun k hk => ?_), by omega, h1, by unfold maxLen at h2; omega⟩
      simp only [Option.some.injEq] at hk
      subst hk
      exact (k2.lt _ rfl).1
    have FIN := Lib.hid fin; clear fin
    go_enter Try.func10, Try.ntmps10
    go_wp2_with (first
      | (go_at_call 16; refine CB.out.mono ?_; rintro e w1 ⟨g1, cap1, rfl, ho1, hb1⟩)
      | (go_at_call 18; refine (CI.out _ hb1).mono ?_; rintro e w2 ⟨g2, cap2, rfl, ho2, hb2⟩)
      | (at_builtin; refine wpList_append_own _ rfl (.tmp 20) (.tmp 22) _ rfl w.heap.size 5 i0 (.int .u8 0) 1 1 Try.underlying28 hi hz0 hz1 hz2 rfl (by decide) _ p _ rfl (own_below ho1 hb2) ⟨g2, 0, none⟩ q cap2 _ rfl ho2.1 (ho2.cells (g := g2) rfl) (bytes_one _) (by unfold maxLen; omega) (by omega) (by have := hb1.size; have := hb2.size; omega) ?_; intro v' w3 ho3 hg3 _; obtain ⟨g3, cap3, rfl, hl3, hz3, hc3, hc4, hc5⟩ := FIN.out _ _ _ _ _ _ _ hb1 ho1 hb2 ho3 hg3)
      | (go_at_call 26; (with_reducible refine (STR.out _ _ _ hl3).mono ?_); rintro e w4 ⟨rfl, rfl⟩)
      | (go_at_call 28; (with_reducible refine (INTS.out _ _ _ hl3).mono ?_); rintro e w5 ⟨g5, rfl, hl5, hb5⟩)
      | (go_at_call 12; refine (sanity_any _).mono ?_; rintro e w6 ⟨rfl, hb6⟩)
      | (go_at_call 30; refine (SAME.out _ _ (hl5.on hb6) (bc (bc hz3 hb5) hb6)).mono ?_; rintro e w7 ⟨rfl, hb7⟩))
    go_ret
    exact ⟨rfl, bc (bc (bc hz3 hb5) hb6) hb7⟩

end Wire
end Go.Proofs.Ytjdokaoajannfaa
