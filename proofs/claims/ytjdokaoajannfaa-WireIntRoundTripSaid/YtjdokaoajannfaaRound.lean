/- The walk of the statement on an integer's encoding, decoded whatever follows it. -/
import Derived.Test.YtjdokaoajannfaaTail
namespace Go.Proofs.Ytjdokaoajannfaa
open Go.RowKit
namespace Wire

set_option maxRecDepth 100000 in
set_option maxHeartbeats 2000000 in
theorem round_any (x : Int) (hx : -9223372036854775808 ≤ x ∧ x ≤ 9223372036854775807) (ys : List UInt8) (n c : Nat) (A : Option Addr) (w : World) (hl : Lies w w.heap.size 1 A n c (ys.map bv)) :
    Calls Try.prog 6 #[.int .i64 x, .slice A n c] w (Yes w) := by
  have hmost : c ≤ 9223372036854775807 := by have := hl.most; unfold maxLen at this; omega
  have hle := hl.le
  by_cases h2 : (2000 : Int) < n
  · go_enter Try.func6, Try.ntmps6
    go_wp2_with (go_at_call 12; refine (sanity_any _).mono ?_; rintro e w1 ⟨rfl, hb⟩)
    go_ret
    exact ⟨rfl, hb⟩
  · have hel := enc_length_le hx
    obtain ⟨k, hk⟩ : ∃ k, k = (enc x).length := ⟨_, rfl⟩
    have hin : Calls Try.prog 14 #[.int .i64 x] w (Made w k (enc x)) := by rw [hk]; exact int_any x w hx
    have hk1 : 1 ≤ k := by omega
    have hk9 : k ≤ 9 := by omega
    have hd9 : decide ((k : Int) ≤ 9) = true := by simp; omega
    have hd1 : decide (1 ≤ (k : Int)) = true := by simp; omega
    have hdec := dec_enc hx ys
    rw [← hk] at hdec
    have HI := Lib.hid hin; clear hin
    have HD := Lib.hid hdec; clear hdec
    have HK := Lib.hid hk; clear hk hel
    go_enter Try.func6, Try.ntmps6
    go_wp2_with (first
      | (go_at_call 14; refine HI.out.mono ?_; rintro e w1 ⟨g, cap, rfl, hown, hb⟩; have hcap := (lies_own hown).le; have hcapm := (lies_own hown).most; have ly := hl.on hb)
      | (at_builtin; refine wpList_append_tail rfl (.tmp 21) (.tmp 22) rfl ⟨g, 0, none⟩ k (enc x) rfl (lies_own hown).fits A n c ys rfl ly (by omega) ?_; intro A' c' w2 hl2 hb2)
      | (go_at_call 24; refine (get_ok hl2 HD.out).mono ?_; rintro e w3 ⟨rfl, rfl⟩)
      | (go_at_call 12; refine (sanity_any _).mono ?_; rintro e w4 ⟨rfl, hb4⟩))
    go_ret
    exact ⟨rfl, bc (bc hb hb2) hb4⟩

end Wire
end Go.Proofs.Ytjdokaoajannfaa
