/- The walks of the statements on Xor alone: a text XORed twice, a part of it from a block on, prefixes. Condition: the counter has 32 bits; the examples are as they should be (a hypothesis). -/
import Derived.Test.YtjepagbjoiipaaaCSane
namespace Go.Proofs.Ytjepagbjoiipaaa
open Go.RowKit
namespace Cha

def Yes (w : World) (e : Ending) (w' : World) : Prop := e = .returned (.bool true) ∧ Below w.heap.size w w'
theorem sameS (a : List UInt8) (W : World) : (Op.equalIn 10000 9 (.string ⟨a.toArray⟩) (.string ⟨a.toArray⟩)).run Try.prog W = .ok true W := by
  rw [run_equalIn_string W 9999 9 _ _ Try.underlying9]
  simp
theorem drop_from (x y : List UInt8) (k : Nat) (hk : k ≤ x.length) (h : x.drop k = y) (W : World) : (Instr.slice 9 (.string ⟨x.toArray⟩) (some (.int .i64 (k : Int))) none none).run Try.prog W = .ok (.string ⟨y.toArray⟩) W := by
  rw [← h]; exact slice_from x k hk W
theorem take_to (x y : List UInt8) (k : Nat) (hk : k ≤ x.length) (h : x.take k = y) (W : World) : (Instr.slice 9 (.string ⟨x.toArray⟩) none (some (.int .i64 (k : Int))) none).run Try.prog W = .ok (.string ⟨y.toArray⟩) W := by
  have h1 := run_slice_string_to_if (P := Try.prog) W 9 ⟨x.toArray⟩ .i64 (k : Int) Try.underlying9
  have hs := sizeS x
  rw [h1, ← h]
  simp [hs, hk]
  apply ByteArray.ext
  rw [ByteArray.data_extract]
  apply Array.toList_inj.1
  rw [Array.toList_extract, List.extract_eq_take_drop]
  simp

set_option maxRecDepth 100000 in
set_option maxHeartbeats 1000000 in
theorem twiceLaw (hS : ∀ W, Calls Try.prog 13 #[] W (Yes W)) (key nonce text : List UInt8) (ctr : Nat) (w : World) (hc : ctr < 4294967296) :
    Calls Try.prog 6 #[.string ⟨key.toArray⟩, .int .u32 (ctr : Int), .string ⟨nonce.toArray⟩, .string ⟨text.toArray⟩] w (Yes w) := by
  have HS := Lib.hid hS
  have hst := sizeS text
  have Z := Below.refl w.heap.size w
  clear hS
  by_cases h1 : (2000 : Int) < (text.length : Int)
  · clear hc
    go_enter Try.func6, Try.ntmps6
    go_wp2_with (go_at_call 13; (with_reducible refine (HS.out _).mono ?_); rintro e w1 ⟨rfl, hb⟩; replace Z := bcj Z hb; clear hb)
    go_ret
    exact ⟨rfl, Z⟩
  · have hx : text.length ≤ 140737488355328 := by omega
    by_cases h2 : key.length = 32 ∧ nonce.length = 12
    · have E1 := Lib.hid (fun W => xor_ok key nonce text ctr W h2.1 h2.2 hc hx)
      have E2 := Lib.hid (fun W => by have := xor_ok key nonce (xor key ctr nonce text) ctr W h2.1 h2.2 hc (by rw [xor_length]; exact hx); rw [xor_twice] at this; exact this)
      have q1 := sameS text
      generalize xor key ctr nonce text = X at E1 E2
      clear hc hx h2
      go_enter Try.func6, Try.ntmps6
      go_wp2_with (first
        | (go_at_call 13; (with_reducible refine (HS.out _).mono ?_); rintro e w1 ⟨rfl, hb⟩; replace Z := bcj Z hb; clear hb)
        | (go_at_call 17; (with_reducible refine (E1.out _).mono ?_); rintro e w2 ⟨rfl, hb⟩; replace Z := bcj Z hb; clear hb)
        | (go_at_call 17; (with_reducible refine (E2.out _).mono ?_); rintro e w2 ⟨rfl, hb⟩; replace Z := bcj Z hb; clear hb))
      go_ret
      exact ⟨rfl, Z⟩
    · have E1 := Lib.hid (fun W => xor_err key nonce text ctr W h2)
      have E2 : Hid (∀ W, Calls Try.prog 17 #[.string ⟨key.toArray⟩, .int .u32 (ctr : Int), .string ⟨nonce.toArray⟩, .string ⟨#[]⟩] W (GivesE [] 1 W)) := Lib.hid (fun W => xor_err key nonce [] ctr W h2)
      have q1 : ∀ W, (Op.equalIn 10000 9 (.string ⟨#[]⟩) (.string ⟨#[]⟩)).run Try.prog W = .ok true W := sameS []
      clear hc hx h2
      go_enter Try.func6, Try.ntmps6
      go_wp2_with (first
        | (go_at_call 13; (with_reducible refine (HS.out _).mono ?_); rintro e w1 ⟨rfl, hb⟩; replace Z := bcj Z hb; clear hb)
        | (go_at_call 17; (with_reducible refine (E1.out _).mono ?_); rintro e w2 ⟨rfl, hb⟩; replace Z := bcj Z hb; clear hb)
        | (go_at_call 17; (with_reducible refine (E2.out _).mono ?_); rintro e w2 ⟨rfl, hb⟩; replace Z := bcj Z hb; clear hb))
      go_ret
      exact ⟨rfl, Z⟩

end Cha
end Go.Proofs.Ytjepagbjoiipaaa
