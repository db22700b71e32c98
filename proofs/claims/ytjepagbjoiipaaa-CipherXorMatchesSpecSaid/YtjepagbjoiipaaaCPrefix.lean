/- The walk of the statement on prefixes and differences of what Xor returns. Condition: the counter has 32 bits; the examples are as they should be (a hypothesis). -/
import Derived.Test.YtjepagbjoiipaaaCSeek
namespace Go.Proofs.Ytjepagbjoiipaaa
open Go.RowKit
namespace Cha

set_option maxRecDepth 100000 in
set_option maxHeartbeats 2000000 in
theorem prefixLaw (hS : ∀ W, Calls Try.prog 13 #[] W (Yes W)) (key nonce a b : List UInt8) (ctr : Nat) (n : Int) (w : World) (hc : ctr < 4294967296) :
    Calls Try.prog 8 #[.string ⟨key.toArray⟩, .int .u32 (ctr : Int), .string ⟨nonce.toArray⟩, .string ⟨a.toArray⟩, .string ⟨b.toArray⟩, .int .i64 n] w (Yes w) := by
  have HS := Lib.hid hS
  have hsa := sizeS a
  have hsb := sizeS b
  have Z := Below.refl w.heap.size w
  clear hS
  by_cases h1 : (2000 : Int) < (a.length : Int)
  case' neg =>
    by_cases hl : (a.length : Int) = (b.length : Int)
    case' pos =>
      by_cases hn : n < 0
      case' neg =>
        obtain ⟨k, rfl⟩ : ∃ k : Nat, n = (k : Int) := ⟨n.toNat, by omega⟩
        by_cases hk : (a.length : Int) < (k : Int)
  rotate_left 4
  all_goals try
    (clear hc
     go_enter Try.func8, Try.ntmps8
     go_wp2_with (go_at_call 13; (with_reducible refine (HS.out _).mono ?_); rintro e w1 ⟨rfl, hb⟩; replace Z := bcj Z hb; clear hb)
     go_ret
     exact ⟨rfl, Z⟩)
  have hx : a.length ≤ 140737488355328 := by omega
  have hx2 : b.length ≤ 140737488355328 := by omega
  have hll : b.length = a.length := by omega
  rw [hll] at hsb
  have HLL := Lib.hid hll
  have hkl : k ≤ a.length := by omega
  have z0 : (0 : Int) ≤ (k : Int) := by omega
  clear hl hll
  have hsl := fun W => take_to a (a.take k) k hkl rfl W
  by_cases h2 : key.length = 32 ∧ nonce.length = 12
  · have E1 := Lib.hid (fun W => xor_ok key nonce a ctr W h2.1 h2.2 hc hx)
    have E2 := Lib.hid (fun W => xor_ok key nonce b ctr W h2.1 h2.2 hc hx2)
    have E3 := Lib.hid (fun W => by
      have := xor_ok key nonce (a.take k) ctr W h2.1 h2.2 hc (by rw [List.length_take]; omega)
      rw [xor_take] at this
      exact this)
    have HX := Lib.hid (fun i x (h : a[i]? = some x) => xor_at (key := key) (ctr := ctr) (nonce := nonce) h)
    have HY := Lib.hid (fun i x (h : b[i]? = some x) => xor_at (key := key) (ctr := ctr) (nonce := nonce) h)
    have hxs := sizeS (xor key ctr nonce a)
    have hys := sizeS (xor key ctr nonce b)
    rw [xor_length] at hxs hys
    rw [HLL.out] at hys
    have hsl2 := fun W => take_to (xor key ctr nonce a) ((xor key ctr nonce a).take k) k (by rw [xor_length]; exact hkl) rfl W
    have q1 := sameS ((xor key ctr nonce a).take k)
    generalize (xor key ctr nonce a).take k = P at E3 hsl2 q1
    generalize xor key ctr nonce a = X at E1 hsl2 hxs HX
    generalize xor key ctr nonce b = Y at E2 hys HY
    generalize a.take k = D at E3 hsl
    clear hc hx hx2 h2
    go_enter Try.func8, Try.ntmps8
    go_wp2_with (first
      | (go_at_call 17; (with_reducible refine (E1.out _).mono ?_); rintro e w2 ⟨rfl, hb⟩; replace Z := bcj Z hb; clear hb)
      | (go_at_call 17; (with_reducible refine (E2.out _).mono ?_); rintro e w3 ⟨rfl, hb⟩; replace Z := bcj Z hb; clear hb)
      | (go_at_call 17; (with_reducible refine (E3.out _).mono ?_); rintro e w4 ⟨rfl, hb⟩; replace Z := bcj Z hb; clear hb))
    clear hsl hsl2 q1
    go_loopw [19] (fun iv wr => ∃ (i : Nat), i ≤ a.length ∧ iv = .int .i64 (i : Int) ∧ Below w.heap.size w wr) (fun iv _ => a.length - (intOf iv).toNat)
    case atStart => exact ⟨0, by omega, rfl, Z⟩
    case round =>
      obtain ⟨i, hi, rfl, hr⟩ := hrel
      clear Z
      by_cases hlt : i < a.length
      · obtain ⟨x, hx⟩ : ∃ x, a[i]? = some x := ⟨_, List.getElem?_eq_getElem hlt⟩
        obtain ⟨y, hy⟩ : ∃ y, b[i]? = some y := ⟨_, List.getElem?_eq_getElem (by rw [HLL.out]; exact hlt)⟩
        have hX := HX.out i x hx
        have hY := HY.out i y hy
        generalize ks key ctr nonce i = c at hX hY
        have i1 := fun W => index_at a i x hx W
        have i2 := fun W => index_at b i y hy W
        have e1 := xor8 x y
        have e2 := xor8 (x ^^^ c) (y ^^^ c)
        rw [u8_diff] at e2
        generalize x ^^^ y = z at e1 e2
        generalize x ^^^ c = u at e2 hX
        generalize y ^^^ c = v at e2 hY
        have i3 := fun W => index_at X i u hX W
        have i4 := fun W => index_at Y i v hY W
        have y0 : (0 : Int) ≤ (i : Int) := by omega
        have y1 : (i : Int) < (a.length : Int) := by omega
        clear hx hy hX hY
        go_wp2
        go_quiet (fail)
        go_wp2
        go_roundw
        case rel => exact ⟨i + 1, by omega, by go_num, hr.trans ⟨rfl, rfl, rfl, Nat.le_refl _, fun _ _ => rfl⟩⟩
        case measure => simp [intOf]; omega
      · have y1 : ¬ (i : Int) < (a.length : Int) := by omega
        clear hlt hi
        go_wp2_with (go_at_call 13; (with_reducible refine (HS.out _).mono ?_); rintro e w1 ⟨rfl, hb⟩; replace hr := bcj hr hb; clear hb)
        go_ret
        exact ⟨rfl, hr⟩
  · have E1 := Lib.hid (fun W => xor_err key nonce a ctr W h2)
    have E2 := Lib.hid (fun W => xor_err key nonce b ctr W h2)
    have E3 := Lib.hid (fun W => xor_err key nonce (a.take k) ctr W h2)
    generalize a.take k = D at E3 hsl
    clear hc hx hx2 h2
    go_enter Try.func8, Try.ntmps8
    go_wp2_with (first
      | (go_at_call 13; (with_reducible refine (HS.out _).mono ?_); rintro e w1 ⟨rfl, hb⟩; replace Z := bcj Z hb; clear hb)
      | (go_at_call 17; (with_reducible refine (E1.out _).mono ?_); rintro e w2 ⟨rfl, hb⟩; replace Z := bcj Z hb; clear hb)
      | (go_at_call 17; (with_reducible refine (E2.out _).mono ?_); rintro e w3 ⟨rfl, hb⟩; replace Z := bcj Z hb; clear hb)
      | (go_at_call 17; (with_reducible refine (E3.out _).mono ?_); rintro e w4 ⟨rfl, hb⟩; replace Z := bcj Z hb; clear hb))
    go_ret
    exact ⟨rfl, Z⟩

end Cha
end Go.Proofs.Ytjepagbjoiipaaa
