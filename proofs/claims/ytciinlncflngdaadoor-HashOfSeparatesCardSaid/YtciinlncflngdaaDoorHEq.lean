/- Two texts compared without an early return: Equal, of the package. No condition but that lengths have 63 bits. -/
import Derived.Test.YtciinlncflngdaaDoorHBase
import Derived.Test.YtciinlncflngdaaDoorBase
namespace Go.Proofs.YtciinlncflngdaaDoor
open Go.RowKit
namespace Hash

theorem ofInt8 (a : UInt8) : (BitVec.ofInt 8 (a.toNat : Int)).toNat = a.toNat := by
  have := a.toNat_lt
  rw [BitVec.ofInt_natCast, BitVec.toNat_ofNat]; exact Nat.mod_eq_of_lt (by omega)
theorem xor8 (a b : UInt8) : bits .xor .u8 (a.toNat : Int) (b.toNat : Int) = ((a ^^^ b).toNat : Int) := by
  have h := (a ^^^ b).toNat_lt
  show IntKind.u8.wrap ((BitVec.ofInt 8 (a.toNat : Int) ^^^ BitVec.ofInt 8 (b.toNat : Int)).toNat : Int) = _
  rw [BitVec.toNat_xor, ofInt8, ofInt8, ← UInt8.toNat_xor, IntKind.wrap_u8]; omega
theorem or8 (a b : UInt8) : bits .or .u8 (a.toNat : Int) (b.toNat : Int) = ((a ||| b).toNat : Int) := by
  have h := (a ||| b).toNat_lt
  show IntKind.u8.wrap ((BitVec.ofInt 8 (a.toNat : Int) ||| BitVec.ofInt 8 (b.toNat : Int)).toNat : Int) = _
  rw [BitVec.toNat_or, ofInt8, ofInt8, ← UInt8.toNat_or, IntKind.wrap_u8]; omega
theorem or_zero {d x y : UInt8} : (d ||| (x ^^^ y)) = 0 ↔ d = 0 ∧ x = y := by
  rw [UInt8.or_eq_zero_iff, UInt8.xor_eq_zero_iff]

theorem index_at (a : List UInt8) (k : Nat) (x : UInt8) (hx : a[k]? = some x) (W : World) : (Instr.index 9 (.string ⟨a.toArray⟩) (.int .i64 (k : Int))).run Tryd.prog W = .ok (.int .u8 (x.toNat : Int)) W := by
  have hk := (List.getElem?_eq_some_iff.1 hx).1
  have hs : (⟨a.toArray⟩ : ByteArray).size = a.length := by simp [ByteArray.size]
  have hxx := (List.getElem?_eq_some_iff.1 hx).2
  rw [run_index_string (h := Tryd.underlying9)]
  rw [dif_pos ⟨by omega, by rw [hs]; omega⟩]
  rw [← hxx]
  rfl
/-- A bool is returned; the memory is as it was. -/
def Tells (b : Bool) (w : World) (e : Ending) (w' : World) : Prop := e = .returned (.bool b) ∧ ∃ k, w' = w.drewN k

set_option maxRecDepth 100000 in
set_option maxHeartbeats 1000000 in
theorem equal_any (a b : List UInt8) (w : World) (ha : a.length ≤ 9223372036854775807) :
    Calls Tryd.prog 24 #[.string ⟨a.toArray⟩, .string ⟨b.toArray⟩] w (Tells (decide (a = b)) w) := by
  by_cases hl : a.length = b.length
  · go_enter Tryd.func24, Tryd.ntmps24
    obtain ⟨n, hn⟩ : ∃ n, n = b.length := ⟨_, rfl⟩
    rw [← hn] at hl
    have HA := Lib.hid hl
    have HB := Lib.hid hn
    have hsa : (⟨a.toArray⟩ : ByteArray).size = n := by simp [ByteArray.size, hl]
    have hsb : (⟨b.toArray⟩ : ByteArray).size = n := by simp [ByteArray.size, hn]
    have hnn : n ≤ 9223372036854775807 := by omega
    clear hl hn ha
    go_wp2
    go_loopw [5, 14] (fun dv iv wr => ∃ (k q : Nat) (d : UInt8), k ≤ n ∧ dv = .int .u8 (d.toNat : Int) ∧ iv = .int .i64 (k : Int) ∧ wr = w.drewN q ∧ (d = 0 ↔ a.take k = b.take k)) (fun _ iv _ => (n - intOf iv).toNat)
    case atStart => exact ⟨0, 0, 0, by omega, rfl, rfl, rfl, by simp⟩
    case round =>
      obtain ⟨k, q, d, hk, rfl, rfl, rfl, hd⟩ := hrel
      have HD := Lib.hid hd; clear hd
      by_cases hlt : k < n
      · obtain ⟨x, hx⟩ : ∃ x, a[k]? = some x := ⟨_, List.getElem?_eq_getElem (by rw [HA.out]; exact hlt)⟩
        obtain ⟨y, hy⟩ : ∃ y, b[k]? = some y := ⟨_, List.getElem?_eq_getElem (by rw [← HB.out]; exact hlt)⟩
        have hix := index_at a k x hx
        have hiy := index_at b k y hy
        have e1 := xor8 x y
        have e2 := or8 d (x ^^^ y)
        obtain ⟨z, hz⟩ : ∃ z, z = x ^^^ y := ⟨_, rfl⟩
        obtain ⟨d2, hd2⟩ : ∃ d2, d2 = d ||| z := ⟨_, rfl⟩
        rw [← hz] at e1 e2
        rw [← hd2] at e2
        have hnext : d2 = 0 ↔ a.take (k + 1) = b.take (k + 1) := by
          rw [hd2, hz, or_zero, HD.out, List.take_add_one, List.take_add_one, hx, hy]
          constructor
          · rintro ⟨h1, h2⟩; rw [h1, h2]
          · intro h
            have hla : (a.take k).length = (b.take k).length := by rw [List.length_take, List.length_take, HA.out, ← HB.out]
            obtain ⟨h1, h2⟩ := List.append_inj h hla
            exact ⟨h1, by simpa using h2⟩
        have HN := Lib.hid hnext
        have z0 : (0 : Int) ≤ (k : Int) := by omega
        have z1 : (k : Int) < (n : Int) := by omega
        clear hx hy hz hd2 hnext
        go_wp2
        go_quiet (fail)
        go_wp2
        go_roundw
        case rel => exact ⟨k + 1, _, d2, by omega, rfl, by go_num, rfl, HN.out⟩
        case measure => simp [intOf]; omega
      · have hkn : k = n := by omega
        have hz0 : ¬ (k : Int) < (n : Int) := by omega
        have hiff : d = 0 ↔ a = b := by
          have h := HD.out
          rwa [List.take_of_length_le (by rw [HA.out]; omega), List.take_of_length_le (by rw [← HB.out]; omega)] at h
        by_cases hd0 : d = 0
        · subst hd0
          have he : Tells (decide (a = b)) w (.returned (.bool true)) (w.drewN q) := by rw [decide_eq_true (hiff.1 rfl)]; exact ⟨rfl, _, rfl⟩
          have HE := Lib.hid he
          clear hkn hiff he hlt hk
          go_wp2
          go_ret
          exact HE.out
        · have hne : ¬ (d.toNat : Int) = 0 := fun h => hd0 (UInt8.toNat_inj.1 (by simpa using h))
          have hnb : ((d.toNat : Int) == 0) = false := by simpa using hne
          have he : Tells (decide (a = b)) w (.returned (.bool false)) (w.drewN q) := by rw [decide_eq_false (fun h => hd0 (hiff.2 h))]; exact ⟨rfl, _, rfl⟩
          have HE := Lib.hid he
          clear hkn hiff he hlt hk hd0
          go_wp2
          go_ret
          exact HE.out
  · have hne : ¬ a = b := fun h => hl (by rw [h])
    have he : Tells (decide (a = b)) w (.returned (.bool false)) w := by rw [decide_eq_false hne]; exact ⟨rfl, 0, rfl⟩
    have HE := Lib.hid he
    have hsa : (⟨a.toArray⟩ : ByteArray).size = a.length := by simp [ByteArray.size]
    have hsb : (⟨b.toArray⟩ : ByteArray).size = b.length := by simp [ByteArray.size]
    have hli : ((a.length : Int) != (b.length : Int)) = true := by simp; omega
    clear hne he
    go_enter Tryd.func24, Tryd.ntmps24
    go_wp2
    go_ret
    exact HE.out

end Hash
end Go.Proofs.YtciinlncflngdaaDoor
