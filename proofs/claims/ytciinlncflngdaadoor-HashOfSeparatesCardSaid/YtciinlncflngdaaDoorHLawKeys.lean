/- The walk of the statement on keys of Mac: a longer key counts as its Sum, a shorter one as itself with a zero byte. Condition: the table of round constants reads as the program lays it; lengths have 63 bits. -/
import Derived.Test.YtciinlncflngdaaDoorHLawEq
import Derived.Lib.ConvBytes
import Derived.Laws.AppendOwn
namespace Go.Proofs.YtciinlncflngdaaDoor
open Go.RowKit
namespace Hash

theorem convKey (key : List UInt8) (W : World) : (convert 9 22 (.string ⟨key.toArray⟩)).run Tryd.prog W = .ok (.slice (some ⟨W.heap.size, 0, none⟩) key.length (grownCap W key.length 0 5)) (Lib.bytesWorld W 5 ⟨key.toArray⟩) :=
  Lib.run_convert_string_bytes (P := Tryd.prog) W 9 22 5 ⟨key.toArray⟩ (u := .string) Tryd.underlying9 Tryd.underlying22 Tryd.underlying5
theorem convKey_lies (key : List UInt8) (hk : key.length ≤ 9223372036854775807) (W : World) : Wire.Lies (Lib.bytesWorld W 5 ⟨key.toArray⟩) (Lib.bytesWorld W 5 ⟨key.toArray⟩).heap.size 1 (some ⟨W.heap.size, 0, none⟩) key.length (grownCap W key.length 0 5) (key.map Wire.bv) where
  len := by simp
  le := grownCap_ge _ _ _ _
  most := grownCap_le_maxLen _ _ _ _ (by unfold maxLen; omega)
  some_ := fun _ => ⟨_, _, rfl⟩
  cells := fun _ => ⟨_, _, rfl, by rw [Lib.bytesWorld_size]; omega, fun j u hu => by
    have hj : j < key.length := by
      have := (List.getElem?_eq_some_iff.1 hu).1
      simpa using this
    rw [Nat.zero_add, Lib.bytesWorld_cell W 5 ⟨key.toArray⟩ j (by rw [sizeS]; exact hj)]
    simp [hj] at hu
    simp [List.getD, hj, ← hu, Wire.bv]⟩

theorem bytesB (W : World) (key : List UInt8) : Below W.heap.size W (Lib.bytesWorld W 5 ⟨key.toArray⟩) :=
  ⟨rfl, rfl, rfl, by rw [Lib.bytesWorld_size]; omega, fun k hk => Lib.bytesWorld_at_old W 5 ⟨key.toArray⟩ k hk⟩
theorem sumKey (key : List UInt8) (hk : key.length ≤ 9223372036854775807) (W : World) (ht : Table 1 W) :
    Calls Tryd.prog 11 #[.slice (some ⟨W.heap.size, 0, none⟩) key.length (grownCap W key.length 0 5)] (Lib.bytesWorld W 5 ⟨key.toArray⟩) fun e w' => e = .returned (.agg ((sha key).map Wire.bv).toArray) ∧ Below W.heap.size W w' := by
  have hb := bytesB W key
  exact (sum_any key _ _ _ _ (convKey_lies key hk W) (tabj ht hb)).mono fun e w' ⟨he, hw⟩ => ⟨he, bcj hb hw⟩

theorem mac_long (key text : List UInt8) (h : 64 < key.length) : mac (sha key) text = mac key text := by
  have h2 : shortKey (sha key) = shortKey key := by
    unfold shortKey
    rw [if_pos h, if_neg (by rw [sha_length]; omega)]
  unfold mac
  rw [keyBlock_eq, keyBlock_eq, h2, ← keyBlock_eq, ← keyBlock_eq]
theorem mac_short (key text : List UInt8) (h : key.length < 64) : mac (key ++ [0]) text = mac key text := by
  have h2 : ∀ m, keyBlock (key ++ [0]) m = keyBlock key m := by
    intro m
    unfold keyBlock
    rw [if_neg (by simp; omega), if_neg (by omega)]
    obtain ⟨n, hn⟩ : ∃ n, 64 - key.length = n + 1 := ⟨63 - key.length, by omega⟩
    have hn2 : 64 - (key ++ [(0 : UInt8)]).length = n := by simp; omega
    show ((key ++ [(0 : UInt8)]) ++ zeros (64 - (key ++ [(0 : UInt8)]).length)).map (· ^^^ m) = (key ++ zeros (64 - key.length)).map (· ^^^ m)
    rw [hn, hn2]
    simp [zeros, List.replicate_succ]
  unfold mac
  rw [h2, h2]
theorem app0 (a : List UInt8) : (⟨a.toArray⟩ : ByteArray) ++ (⟨#[0]⟩ : ByteArray) = ⟨(a ++ [0]).toArray⟩ := by
  apply ByteArray.ext
  simp

set_option maxRecDepth 100000 in
set_option maxHeartbeats 1000000 in
theorem keysLaw (key text : List UInt8) (w : World) (hk : key.length ≤ 9223372036854775807) (hx : text.length ≤ 9223372036854775807) (ht : Table 1 w) :
    Calls Tryd.prog 6 #[.string ⟨key.toArray⟩, .string ⟨text.toArray⟩] w (YesH w) := by
  have hsa := sizeS key
  have hsb := sizeS text
  have T := ht
  have Z := Below.refl w.heap.size w
  clear ht
  by_cases h1 : (400 : Int) < (key.length : Int)
  · clear hk hx
    go_enter Tryd.func6, Tryd.ntmps6
    go_wp2_with (go_at_call 10; (with_reducible refine (sanity_any _ T).mono ?_); rintro e w1 ⟨rfl, hb⟩; replace Z := bcj Z hb; clear hb T)
    go_ret
    exact ⟨rfl, Z⟩
  · by_cases h2 : (400 : Int) < (text.length : Int)
    · clear hk hx
      go_enter Tryd.func6, Tryd.ntmps6
      go_wp2_with (go_at_call 10; (with_reducible refine (sanity_any _ T).mono ?_); rintro e w1 ⟨rfl, hb⟩; replace Z := bcj Z hb; clear hb T)
      go_ret
      exact ⟨rfl, Z⟩
    · obtain ⟨M, hM⟩ : ∃ M, M = mac key text := ⟨_, rfl⟩
      have hML : M.length = 32 := by rw [hM]; exact sha_length _
      have hsm := sizeS M
      rw [hML] at hsm
      have E1 := Lib.hid (fun W hT => by have := mac_any key text W hk hx hT; rw [← hM] at this; exact this)
      by_cases hl : (64 : Int) < (key.length : Int)
      · have E2 := Lib.hid (fun W hT => sumKey key hk W hT)
        have hSL : (sha key).length = 32 := sha_length key
        have E4 := Lib.hid (fun W hT => by have := mac_any (sha key) text W (by omega) hx hT; rw [mac_long key text (by omega), ← hM] at this; exact this)
        generalize sha key = sk at E2 E4 hSL
        have E3 := Lib.hid (fun W => bytes32_any sk W hSL)
        have hcv := convKey key
        clear hk hx hM hML hSL
        go_enter Tryd.func6, Tryd.ntmps6
        go_wp2_with (first
          | (go_at_call 10; (with_reducible refine (sanity_any _ T).mono ?_); rintro e w1 ⟨rfl, hb⟩; replace T := tabj T hb; replace Z := bcj Z hb; clear hb)
          | (go_at_call 18; (with_reducible refine (E1.out _ T).mono ?_); rintro e w2 ⟨rfl, hb⟩; replace T := tabj T hb; replace Z := bcj Z hb; clear hb)
          | (go_at_call 11; (with_reducible refine (E2.out _ T).mono ?_); rintro e w3 ⟨rfl, hb⟩; replace T := tabj T hb; replace Z := bcj Z hb; clear hb)
          | (go_at_call 20; (with_reducible refine (E3.out _).mono ?_); rintro e w4 ⟨rfl, hb⟩; replace T := tabj T hb; replace Z := bcj Z hb; clear hb)
          | (go_at_call 18; (with_reducible refine (E4.out _ T).mono ?_); rintro e w5 ⟨rfl, hb⟩; replace T := tabj T hb; replace Z := bcj Z hb; clear hb))
        go_ret
        exact ⟨rfl, Z⟩
      · by_cases hl2 : (key.length : Int) < 64
        · have happ := app0 key
          have E4 := Lib.hid (fun W hT => by have := mac_any (key ++ [0]) text W (by simp; omega) hx hT; rw [mac_short key text (by omega), ← hM] at this; exact this)
          clear hk hx hM hML
          go_enter Tryd.func6, Tryd.ntmps6
          go_wp2_with (first
            | (go_at_call 10; (with_reducible refine (sanity_any _ T).mono ?_); rintro e w1 ⟨rfl, hb⟩; replace T := tabj T hb; replace Z := bcj Z hb; clear hb)
            | (go_at_call 18; (with_reducible refine (E1.out _ T).mono ?_); rintro e w2 ⟨rfl, hb⟩; replace T := tabj T hb; replace Z := bcj Z hb; clear hb)
            | (go_at_call 18; (with_reducible refine (E4.out _ T).mono ?_); rintro e w5 ⟨rfl, hb⟩; replace T := tabj T hb; replace Z := bcj Z hb; clear hb))
          go_ret
          exact ⟨rfl, Z⟩
        · clear hk hx hM hML
          go_enter Tryd.func6, Tryd.ntmps6
          go_wp2_with (first
            | (go_at_call 10; (with_reducible refine (sanity_any _ T).mono ?_); rintro e w1 ⟨rfl, hb⟩; replace T := tabj T hb; replace Z := bcj Z hb; clear hb)
            | (go_at_call 18; (with_reducible refine (E1.out _ T).mono ?_); rintro e w2 ⟨rfl, hb⟩; replace T := tabj T hb; replace Z := bcj Z hb; clear hb))
          go_ret
          exact ⟨rfl, Z⟩

theorem keysLawB (a b : ByteArray) (ha : a.data.toList.length ≤ 9223372036854775807) (hb : b.data.toList.length ≤ 9223372036854775807) (w : World) (ht : Table 1 w) :
    Calls Tryd.prog 6 #[.string a, .string b] w (YesH w) := by
  have := keysLaw a.data.toList b.data.toList w ha hb ht
  rwa [show (⟨a.data.toList.toArray⟩ : ByteArray) = a from ByteArray.ext rfl, show (⟨b.data.toList.toArray⟩ : ByteArray) = b from ByteArray.ext rfl] at this

end Hash
end Go.Proofs.YtciinlncflngdaaDoor
