/- The walks of the statements CipherXorMatchesSpec and CipherMatchesSpec. Condition: the counter has 32 bits. -/
import Derived.Test.YtjepagbjoiipaaaCRefX
import Derived.Test.YtjepagbjoiipaaaCSeek
import Derived.Test.YtjepagbjoiipaaaCEnds
namespace Go.Proofs.Ytjepagbjoiipaaa
open Go.RowKit
namespace Cha

set_option maxRecDepth 100000 in
set_option maxHeartbeats 1000000 in
theorem xorLaw (key nonce text : List UInt8) (ctr : Nat) (w : World) (hc : ctr < 4294967296) :
    Calls Try.prog 5 #[.string ⟨key.toArray⟩, .int .u32 (ctr : Int), .string ⟨nonce.toArray⟩, .string ⟨text.toArray⟩] w (Yes w) := by
  have HS := Lib.hid sanity_any
  have hst := sizeS text
  have Z := Below.refl w.heap.size w
  by_cases h1 : (2000 : Int) < (text.length : Int)
  · clear hc
    go_enter Try.func5, Try.ntmps5
    go_wp2_with (go_at_call 13; (with_reducible refine (HS.out _).mono ?_); rintro e w1 ⟨rfl, hb⟩; replace Z := bcj Z hb; clear hb)
    go_ret
    exact ⟨rfl, Z⟩
  · have hx : text.length ≤ 140737488355328 := by omega
    have key2 : ∃ (X : List UInt8) (n : Nat), (n = 0 ∨ n = 1) ∧ (∀ W, Calls Try.prog 17 #[.string ⟨key.toArray⟩, .int .u32 (ctr : Int), .string ⟨nonce.toArray⟩, .string ⟨text.toArray⟩] W (GivesE X n W)) ∧
        (∀ W, Calls Try.prog 18 #[.string ⟨key.toArray⟩, .int .u32 (ctr : Int), .string ⟨nonce.toArray⟩, .string ⟨text.toArray⟩] W (GivesE X n W)) := by
      by_cases h2 : key.length = 32 ∧ nonce.length = 12
      · exact ⟨_, 0, Or.inl rfl, fun W => xor_ok key nonce text ctr W h2.1 h2.2 hc hx, fun W => refXor_ok key nonce text ctr W h2.1 h2.2 hc hx⟩
      · exact ⟨[], 1, Or.inr rfl, fun W => xor_err key nonce text ctr W h2, fun W => refXor_err key nonce text ctr W h2⟩
    obtain ⟨X, n, hn, h3, h4⟩ := key2
    have q1 := sameS X
    clear hc hx
    rcases hn with rfl | rfl
    all_goals
      have E1 := Lib.hid h3
      have E2 := Lib.hid h4
      clear h3 h4
      go_enter Try.func5, Try.ntmps5
      go_wp2_with (first
        | (go_at_call 13; (with_reducible refine (HS.out _).mono ?_); rintro e w1 ⟨rfl, hb⟩; replace Z := bcj Z hb; clear hb)
        | (go_at_call 17; (with_reducible refine (E1.out _).mono ?_); rintro e w2 ⟨rfl, hb⟩; replace Z := bcj Z hb; clear hb)
        | (go_at_call 18; (with_reducible refine (E2.out _).mono ?_); rintro e w2 ⟨rfl, hb⟩; replace Z := bcj Z hb; clear hb))
      go_ret
      exact ⟨rfl, Z⟩
theorem xorLawB (key nonce text : ByteArray) (ctr : Nat) (w : World) (hc : ctr < 4294967296) :
    Calls Try.prog 5 #[.string key, .int .u32 (ctr : Int), .string nonce, .string text] w (Yes w) := by
  have h := xorLaw key.data.toList nonce.data.toList text.data.toList ctr w hc
  rwa [asList, asList, asList] at h

set_option maxRecDepth 100000 in
set_option maxHeartbeats 1000000 in
theorem specLaw (key nonce : List UInt8) (ctr : Nat) (w : World) (hc : ctr < 4294967296) :
    Calls Try.prog 3 #[.string ⟨key.toArray⟩, .int .u32 (ctr : Int), .string ⟨nonce.toArray⟩] w (Yes w) := by
  have HS := Lib.hid sanity_any
  have Z := Below.refl w.heap.size w
  have hz := zero16
  have key2 : ∃ (l : List Nat) (X : List UInt8) (n : Nat), (n = 0 ∨ n = 1) ∧ l.length = 16 ∧ (∀ W, Calls Try.prog 9 #[.string ⟨key.toArray⟩, .int .u32 (ctr : Int), .string ⟨nonce.toArray⟩] W (State16 (l.map wv) n W)) ∧
      (∀ W, Calls Try.prog 10 #[.string ⟨key.toArray⟩, .int .u32 (ctr : Int), .string ⟨nonce.toArray⟩] W (State16 (l.map wv) n W)) ∧
      (∀ W, Calls Try.prog 11 #[.string ⟨key.toArray⟩, .int .u32 (ctr : Int), .string ⟨nonce.toArray⟩] W (GivesE X n W)) ∧
      (∀ W, Calls Try.prog 12 #[.string ⟨key.toArray⟩, .int .u32 (ctr : Int), .string ⟨nonce.toArray⟩] W (GivesE X n W)) := by
    by_cases h2 : key.length = 32 ∧ nonce.length = 12
    · exact ⟨_, _, 0, Or.inl rfl, start_len key ctr nonce, fun W => state_ok key nonce ctr W h2.1 h2.2, fun W => refState_ok key nonce ctr W h2.1 h2.2, fun W => blockT_ok key nonce ctr W h2.1 h2.2 hc, fun W => refBlock_ok key nonce ctr W h2.1 h2.2 hc⟩
    · exact ⟨zN, [], 1, Or.inr rfl, rfl, fun W => state_err key nonce ctr W h2, fun W => refState_err key nonce ctr W h2, fun W => blockT_err key nonce ctr W h2, fun W => refBlock_err key nonce ctr W h2⟩
  obtain ⟨l, X, n, hn, hl, h1, h2, h3, h4⟩ := key2
  have q1 := sameS X
  have q2 := same16 l hl
  have HL := Lib.hid hl
  clear hc hl
  rcases hn with rfl | rfl
  all_goals
    have E1 := Lib.hid h1
    have E2 := Lib.hid h2
    have E3 := Lib.hid h3
    have E4 := Lib.hid h4
    clear h1 h2 h3 h4
    go_enter Try.func3, Try.ntmps3
    go_wp2_with (first
      | (go_at_call 9; (with_reducible refine (E1.out _).mono ?_); rintro e w1 ⟨rfl, hb⟩; replace Z := bcj Z hb; clear hb)
      | ((with_reducible refine at_store 23 (.tmp 7) (.tmp 20) rfl ?_); refine wpList_store_mid rfl 23 (.tmp 7) (.tmp 20) rfl w1.heap.size 0 (l.map wv).toArray rfl rfl (fresh16W w1 l HL.out _) (i16A HL.out) (words_one _) ?_; refine gen_world (Pq := fun W => HasS w W w1.heap.size l) (G := fun W => wpList _ _ _ _ _ W) (hasS_new Z l HL.out _) ?_; intro w2 S2; clear Z)
      | (go_at_call 10; (with_reducible refine (E2.out _).mono ?_); rintro e w3 ⟨rfl, hb⟩; replace S2 := S2.on hb; clear hb)
      | ((with_reducible refine at_store 23 (.tmp 9) (.tmp 27) rfl ?_); refine wpList_store_mid rfl 23 (.tmp 9) (.tmp 27) rfl w3.heap.size 0 (l.map wv).toArray rfl rfl (fresh16W w3 l HL.out _) (i16A HL.out) (words_one _) ?_; refine gen_world (Pq := fun W => LawS w W w1.heap.size w3.heap.size l l) (G := fun W => wpList _ _ _ _ _ W) (lawS_new S2 l HL.out _) ?_; intro w4 S4; clear S2)
      | (go_at_call 11; (with_reducible refine (E3.out _).mono ?_); rintro e w5 ⟨rfl, hb⟩; replace S4 := S4.on hb; clear hb)
      | (go_at_call 12; (with_reducible refine (E4.out _).mono ?_); rintro e w6 ⟨rfl, hb⟩; replace S4 := S4.on hb; clear hb)
      | (go_at_call 13; (with_reducible refine (HS.out _).mono ?_); rintro e w7 ⟨rfl, hb⟩; replace S4 := S4.on hb; clear hb)
      | ((with_reducible refine at_slot 45 rfl ?_); refine QTail.loadG (by rfl) 23 (.tmp 7) rfl w1.heap.size 0 rfl (l.map wv) _ S4.st.range und16 rfl (i16 HL.out) ?_)
      | ((with_reducible refine at_slot 46 rfl ?_); refine QTail.loadG (by rfl) 23 (.tmp 9) rfl w3.heap.size 0 rfl (l.map wv) _ S4.rd.range und16 rfl (i16 HL.out) ?_))
    go_ret
    exact ⟨rfl, S4.below⟩
theorem specLawB (key nonce : ByteArray) (ctr : Nat) (w : World) (hc : ctr < 4294967296) :
    Calls Try.prog 3 #[.string key, .int .u32 (ctr : Int), .string nonce] w (Yes w) := by
  have h := specLaw key.data.toList nonce.data.toList ctr w hc
  rwa [asList, asList] at h

end Cha
end Go.Proofs.Ytjepagbjoiipaaa
