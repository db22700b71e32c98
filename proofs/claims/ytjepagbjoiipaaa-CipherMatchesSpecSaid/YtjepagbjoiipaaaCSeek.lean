/- The walks of the statements on Xor alone: the part of a text from a block on; prefixes and differences. Condition: the counter has 32 bits; the examples are as they should be (a hypothesis). -/
import Derived.Test.YtjepagbjoiipaaaCTwice
namespace Go.Proofs.Ytjepagbjoiipaaa
open Go.RowKit
namespace Cha

set_option maxRecDepth 100000 in
set_option maxHeartbeats 1000000 in
theorem seekLaw (hS : ∀ W, Calls Try.prog 13 #[] W (Yes W)) (key nonce text : List UInt8) (ctr : Nat) (n : Int) (w : World) (hc : ctr < 4294967296) :
    Calls Try.prog 7 #[.string ⟨key.toArray⟩, .int .u32 (ctr : Int), .string ⟨nonce.toArray⟩, .string ⟨text.toArray⟩, .int .i64 n] w (Yes w) := by
  have HS := Lib.hid hS
  have hst := sizeS text
  have Z := Below.refl w.heap.size w
  clear hS
  by_cases h1 : (2000 : Int) < (text.length : Int)
  case' neg =>
    by_cases hn : n < 0
    case' neg =>
      obtain ⟨k, rfl⟩ : ∃ k : Nat, n = (k : Int) := ⟨n.toNat, by omega⟩
      by_cases hk : (text.length : Int) / 64 < (k : Int)
  rotate_left 3
  all_goals try
    (clear hc
     go_enter Try.func7, Try.ntmps7
     go_wp2_with (go_at_call 13; (with_reducible refine (HS.out _).mono ?_); rintro e w1 ⟨rfl, hb⟩; replace Z := bcj Z hb; clear hb)
     go_ret
     exact ⟨rfl, Z⟩)
  · have hx : text.length ≤ 140737488355328 := by omega
    by_cases h2 : key.length = 32 ∧ nonce.length = 12
    · have hkl : 64 * k ≤ text.length := by omega
      have e1 : (((ctr + k) % 4294967296 : Nat) : Int) = ((ctr : Int) + (k : Int)) % 4294967296 := by omega
      have e2 : ((64 * k : Nat) : Int) = 64 * (k : Int) := by omega
      have E1 := Lib.hid (fun W => xor_ok key nonce text ctr W h2.1 h2.2 hc hx)
      have E2 := Lib.hid (fun W => by
        have := xor_ok key nonce (text.drop (64 * k)) ((ctr + k) % 4294967296) W h2.1 h2.2 (Nat.mod_lt _ (by omega)) (by rw [List.length_drop]; omega)
        rw [e1, ← xor_seek] at this
        exact this)
      have hsl := fun W => drop_from text (text.drop (64 * k)) (64 * k) hkl rfl W
      have hsl2 := fun W => drop_from (xor key ctr nonce text) ((xor key ctr nonce text).drop (64 * k)) (64 * k) (by rw [xor_length]; exact hkl) rfl W
      have q1 := sameS ((xor key ctr nonce text).drop (64 * k))
      have hxs := sizeS (xor key ctr nonce text)
      rw [xor_length] at hxs
      rw [e2] at hsl hsl2
      generalize (xor key ctr nonce text).drop (64 * k) = Y at E2 hsl2 q1
      generalize xor key ctr nonce text = X at E1 hsl2 hxs
      generalize text.drop (64 * k) = D at E2 hsl
      have z0 : (0 : Int) ≤ (k : Int) := by omega
      have z1 : (k : Int) ≤ 31 := by omega
      clear hc hx h2 e1 e2 hkl
      go_enter Try.func7, Try.ntmps7
      go_wp2_with (first
        | (go_at_call 13; (with_reducible refine (HS.out _).mono ?_); rintro e w1 ⟨rfl, hb⟩; replace Z := bcj Z hb; clear hb)
        | (go_at_call 17; (with_reducible refine (E1.out _).mono ?_); rintro e w2 ⟨rfl, hb⟩; replace Z := bcj Z hb; clear hb)
        | (go_at_call 17; (with_reducible refine (E2.out _).mono ?_); rintro e w2 ⟨rfl, hb⟩; replace Z := bcj Z hb; clear hb))
      go_ret
      exact ⟨rfl, Z⟩
    · have hkl : 64 * k ≤ text.length := by omega
      have e1 : (((ctr + k) % 4294967296 : Nat) : Int) = ((ctr : Int) + (k : Int)) % 4294967296 := by omega
      have e2 : ((64 * k : Nat) : Int) = 64 * (k : Int) := by omega
      have E1 := Lib.hid (fun W => xor_err key nonce text ctr W h2)
      have E2 := Lib.hid (fun W => by
        have := xor_err key nonce (text.drop (64 * k)) ((ctr + k) % 4294967296) W h2
        rw [e1] at this
        exact this)
      have hsl := fun W => drop_from text (text.drop (64 * k)) (64 * k) hkl rfl W
      rw [e2] at hsl
      generalize text.drop (64 * k) = D at E2 hsl
      have z0 : (0 : Int) ≤ (k : Int) := by omega
      have z1 : (k : Int) ≤ 31 := by omega
      clear hc hx h2 e1 e2 hkl
      go_enter Try.func7, Try.ntmps7
      go_wp2_with (first
        | (go_at_call 13; (with_reducible refine (HS.out _).mono ?_); rintro e w1 ⟨rfl, hb⟩; replace Z := bcj Z hb; clear hb)
        | (go_at_call 17; (with_reducible refine (E1.out _).mono ?_); rintro e w2 ⟨rfl, hb⟩; replace Z := bcj Z hb; clear hb)
        | (go_at_call 17; (with_reducible refine (E2.out _).mono ?_); rintro e w2 ⟨rfl, hb⟩; replace Z := bcj Z hb; clear hb))
      go_ret
      exact ⟨rfl, Z⟩

end Cha
end Go.Proofs.Ytjepagbjoiipaaa
