/- The walk of the statement that every encoding is the reference's. Condition: the texts, and their number, add up to at most 2^62; the other arguments are of at most 2^47 elements. -/
import Derived.Test.YtlpkiaeimcoplaaRefEncD
import Derived.Test.YtlpkiaeimcoplaaFew
import Derived.Test.YtlpkiaeimcoplaaNumC
import Derived.Test.YtlpkiaeimcoplaaNumE
import Derived.Test.YtlpkiaeimcoplaaCanonW
namespace Go.Proofs.Ytlpkiaeimcoplaa
open Go.RowKit
namespace Wire

theorem encStrs_le (l : List (List UInt8)) (hl : l.length + total l ≤ 4611686018427387904) : (encList encStr l).length ≤ 9 + 9 * l.length + total l ∧ 1 ≤ (encList encStr l).length := by
  have h1 : ∀ l : List (List UInt8), total l ≤ 4611686018427387904 → (l.flatMap encStr).length ≤ 9 * l.length + total l := by
    intro l
    induction l with
    | nil => intro _; simp
    | cons x l ih =>
      intro h
      have h3 : total (x :: l) = x.length + total l := rfl
      have h4 := ih (by omega)
      have h5 := (encStr_le x (by omega)).1
      rw [List.flatMap_cons, List.length_append, List.length_cons, h3]
      omega
  have h2 := h1 l (by omega)
  have h3 := enc_length_le (n := (l.length : Int)) (by omega)
  simp only [encList, List.length_append]
  omega
theorem encDigs_le (l : List (List UInt8)) (hl : l.length ≤ 9223372036854775807) (h16 : ∀ x ∈ l, x.length = 16) : (encList (fun d => d) l).length ≤ 9 + 16 * l.length ∧ 1 ≤ (encList (fun d => d) l).length := by
  have h2 := flat16 l h16
  have h3 := enc_length_le (n := (l.length : Int)) (by omega)
  simp only [encList, List.length_append]
  omega
theorem sameB (bs : List UInt8) (n c d : Nat) (A E : Option Addr) (W : World) (hx : Lies W W.heap.size 1 A n c (bs.map bv)) (hy : Lies W W.heap.size 1 E n d (bs.map bv)) :
    Calls Try.prog 13 #[.slice A n c, .slice E n d] W (Yes W) :=
  (same_bytes _ _ _ _ _ _ _ _ _ _ hx hy).mono fun e w' hh => yes_of hh (by simp) (Below.refl _ _)

set_option maxRecDepth 100000 in
set_option maxHeartbeats 4000000 in
theorem encode_any (a : Int) (s : List UInt8) (l : List Int) (x d : List (List UInt8)) (n c n2 c2 n3 c3 : Nat) (A A2 A3 : Option Addr) (w : World)
    (ha : -9223372036854775808 ≤ a ∧ a ≤ 9223372036854775807) (hs : s.length ≤ 140737488355328)
    (hl : Lies w w.heap.size 1 A n c (l.map iv)) (hr : ∀ x ∈ l, -9223372036854775808 ≤ x ∧ x ≤ 9223372036854775807) (hn : n ≤ 140737488355328)
    (hx : Lies w w.heap.size 1 A2 n2 c2 (x.map sv)) (ht : n2 + total x ≤ 4611686018427387904)
    (hd : Lies w w.heap.size 16 A3 n3 c3 (digCells d)) (hdl : d.length = n3) (h16 : ∀ y ∈ d, y.length = 16) (hn3 : n3 ≤ 140737488355328) :
    Calls Try.prog 3 #[.int .i64 a, .string ⟨s.toArray⟩, .slice A n c, .slice A2 n2 c2, .slice A3 n3 c3] w (Yes w) := by
  have hc1 : c ≤ 9223372036854775807 := by have := hl.most; unfold maxLen at this; omega
  have hc2 : c2 ≤ 9223372036854775807 := by have := hx.most; unfold maxLen at this; omega
  have hc3 : c3 ≤ 9223372036854775807 := by have := hd.most; unfold maxLen at this; omega
  have hle1 := hl.le
  have hle2 := hx.le
  have hle3 := hd.le
  have hsz : (⟨s.toArray⟩ : ByteArray).size = s.length := by simp [ByteArray.size]
  have hnl : l.length = n := by have := hl.len; simpa using this
  have hnx : x.length = n2 := by have := hx.len; simpa using this
  by_cases h2 : (2000 : Int) < s.length + n + n3
  · have HNL := Lib.hid hnl; clear hnl
    have HNX := Lib.hid hnx; clear hnx
    have HDL := Lib.hid hdl; clear hdl
    go_enter Try.func3, Try.ntmps3
    go_wp2_with (go_at_call 12; refine (sanity_any _).mono ?_; rintro e w1 ⟨rfl, hb⟩)
    go_ret
    exact ⟨rfl, hb⟩
  · by_cases h3 : n2 + total x ≤ 2000
    · have k1 := (encStr_le s (by omega)).1
      have k2 := (encInts_le l (by omega) hr).1
      have k3 := (encStrs_le x (by omega)).1
      have k4 := (encDigs_le d (by omega) h16).1
      have FEW := Lib.hid (few_any x n2 c2 A2 w hx ht)
      rw [decide_eq_true h3] at FEW
      have K1 := Lib.hid (show (encStr s).length ≤ 20000 by omega); clear k1
      have K2 := Lib.hid (show (encList enc l).length ≤ 140737488355328 by omega); clear k2
      have K3 := Lib.hid (show (encList encStr x).length ≤ 140737488355328 by omega); clear k3
      have K4 := Lib.hid (show (encList (fun d => d) d).length ≤ 140737488355328 by omega); clear k4
      have HNL := Lib.hid hnl; clear hnl
      have HNX := Lib.hid hnx; clear hnx
      have HDL := Lib.hid hdl; clear hdl
      have zb := Below.refl w.heap.size w
      go_enter Try.func3, Try.ntmps3
      go_wp2_with (first
        | (go_at_call 11; (with_reducible refine FEW.out.mono ?_); rintro e w1 ⟨rfl, rfl⟩)
        | (go_at_call 12; (with_reducible refine (sanity_any _).mono ?_); rintro e w6 ⟨rfl, hb⟩; replace zb := bc zb hb; clear hb)
        | (go_at_call 14; (with_reducible refine (int_any _ _ ha).mono ?_); rintro e w7 hM; obtain ⟨g7, cap7, rfl, hb, q7⟩ := made_row hM; clear hM; replace zb := bc zb hb; clear hb)
        | (go_at_call 15; (with_reducible refine (refInt_any _ _ ha).mono ?_); rintro e w8 hM; obtain ⟨g8, cap8, rfl, hb, q8⟩ := made_row hM; clear hM; replace zb := bc zb hb; replace q7 := q7.on hb; clear hb)
        | (go_at_call 13; (with_reducible refine (sameB _ _ _ _ _ _ _ q7 q8).mono ?_); rintro e w9 ⟨rfl, hb⟩; replace zb := bc zb hb; clear hb)
        | (go_at_call 16; (with_reducible refine (bytes_raw _ _ K1.out).mono ?_); rintro e w10 hM; obtain ⟨g10, cap10, rfl, hb, q10⟩ := made_row hM; clear hM; replace zb := bc zb hb; clear hb)
        | (go_at_call 17; (with_reducible refine (refBytes_any _ _ (few20 K1.out)).mono ?_); rintro e w11 hM; obtain ⟨g11, cap11, rfl, hb, q11⟩ := made_row hM; clear hM; replace zb := bc zb hb; replace q10 := q10.on hb; clear hb)
        | (go_at_call 13; (with_reducible refine (sameB _ _ _ _ _ _ _ q10 q11).mono ?_); rintro e w12 ⟨rfl, hb⟩; replace zb := bc zb hb; clear hb)
        | (go_at_call 18; (with_reducible refine (ints_any _ _ _ _ _ (hl.on zb) K2.out hr).mono ?_); rintro e w13 hM; obtain ⟨g13, cap13, rfl, hb, q13⟩ := made_row hM; clear hM; replace zb := bc zb hb; clear hb)
        | (go_at_call 19; (with_reducible refine (refInts_any _ _ _ _ _ (hl.on zb) K2.out hr).mono ?_); rintro e w14 hM; obtain ⟨g14, cap14, rfl, hb, q14⟩ := made_row hM; clear hM; replace zb := bc zb hb; replace q13 := q13.on hb; clear hb)
        | (go_at_call 13; (with_reducible refine (sameB _ _ _ _ _ _ _ q13 q14).mono ?_); rintro e w15 ⟨rfl, hb⟩; replace zb := bc zb hb; clear hb)
        | (go_at_call 20; (with_reducible refine (strings_any _ _ _ _ _ (hx.on zb) K3.out).mono ?_); rintro e w16 hM; obtain ⟨g16, cap16, rfl, hb, q16⟩ := made_row hM; clear hM; replace zb := bc zb hb; clear hb)
        | (go_at_call 21; (with_reducible refine (refStrings_any _ _ _ _ _ (hx.on zb) K3.out).mono ?_); rintro e w17 hM; obtain ⟨g17, cap17, rfl, hb, q17⟩ := made_row hM; clear hM; replace zb := bc zb hb; replace q16 := q16.on hb; clear hb)
        | (go_at_call 13; (with_reducible refine (sameB _ _ _ _ _ _ _ q16 q17).mono ?_); rintro e w18 ⟨rfl, hb⟩; replace zb := bc zb hb; clear hb)
        | (go_at_call 22; (with_reducible refine (digests_any _ _ _ _ _ (hd.on zb) HDL.out h16 K4.out).mono ?_); rintro e w19 hM; obtain ⟨g19, cap19, rfl, hb, q19⟩ := made_row hM; clear hM; replace zb := bc zb hb; clear hb)
        | (go_at_call 23; (with_reducible refine (refDigests_any _ _ _ _ _ (hd.on zb) HDL.out h16 K4.out).mono ?_); rintro e w20 hM; obtain ⟨g20, cap20, rfl, hb, q20⟩ := made_row hM; clear hM; replace zb := bc zb hb; replace q19 := q19.on hb; clear hb)
        | (go_at_call 13; (with_reducible refine (sameB _ _ _ _ _ _ _ q19 q20).mono ?_); rintro e w21 ⟨rfl, hb⟩; replace zb := bc zb hb; clear hb))
      go_ret
      exact ⟨rfl, zb⟩
    · have FEW := Lib.hid (few_any x n2 c2 A2 w hx ht)
      rw [decide_eq_false h3] at FEW
      have HNL := Lib.hid hnl; clear hnl
      have HNX := Lib.hid hnx; clear hnx
      have HDL := Lib.hid hdl; clear hdl
      go_enter Try.func3, Try.ntmps3
      go_wp2_with (first
        | (go_at_call 11; (with_reducible refine FEW.out.mono ?_); rintro e w1 ⟨rfl, rfl⟩)
        | (go_at_call 12; refine (sanity_any _).mono ?_; rintro e w1 ⟨rfl, hb⟩))
      go_ret
      exact ⟨rfl, hb⟩

end Wire
end Go.Proofs.Ytlpkiaeimcoplaa
