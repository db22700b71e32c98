/- The walk of the statement that Equal tells whether two texts are the same. Condition: the table of round constants reads as the program lays it; lengths have 63 bits. -/
import Derived.Test.YtciinlncflngdaaDoorHSane
namespace Go.Proofs.YtciinlncflngdaaDoor
open Go.RowKit
namespace Hash

theorem sizeS (a : List UInt8) : (⟨a.toArray⟩ : ByteArray).size = a.length := by simp [ByteArray.size]
theorem eqT4 (a : List UInt8) (W : World) (ha : a.length ≤ 400) : Calls Tryd.prog 24 #[.string ⟨a.toArray⟩, .string ⟨a.toArray⟩] W fun e w' => e = .returned (.bool true) ∧ Below W.heap.size W w' := by
  have := (equal_any a a W (by omega)).mono fun _ _ h => tells_yes h
  rwa [decide_eq_true rfl] at this
theorem eqF4 (a b : List UInt8) (W : World) (ha : a.length ≤ 400) (hne : ¬ a = b) : Calls Tryd.prog 24 #[.string ⟨a.toArray⟩, .string ⟨b.toArray⟩] W fun e w' => e = .returned (.bool false) ∧ Below W.heap.size W w' := by
  have := (equal_any a b W (by omega)).mono fun _ _ h => tells_yes h
  rwa [decide_eq_false hne] at this
theorem appNil (a : List UInt8) : (⟨a.toArray⟩ : ByteArray) ++ (⟨#[]⟩ : ByteArray) = ⟨a.toArray⟩ := by
  apply ByteArray.ext
  simp

set_option maxRecDepth 100000 in
set_option maxHeartbeats 1000000 in
theorem eqLaw (a b : List UInt8) (w : World) (ha : a.length ≤ 9223372036854775807) (hb : b.length ≤ 9223372036854775807) (ht : Table 1 w) :
    Calls Tryd.prog 9 #[.string ⟨a.toArray⟩, .string ⟨b.toArray⟩] w (YesH w) := by
  have hsa := sizeS a
  have hsb := sizeS b
  have T := ht
  have Z := Below.refl w.heap.size w
  clear ht
  by_cases h1 : (400 : Int) < (a.length : Int)
  · go_enter Tryd.func9, Tryd.ntmps9
    go_wp2_with (go_at_call 10; (with_reducible refine (sanity_any _ T).mono ?_); rintro e w1 ⟨rfl, hb⟩; replace Z := bcj Z hb; clear hb T)
    go_ret
    exact ⟨rfl, Z⟩
  · by_cases h2 : (400 : Int) < (b.length : Int)
    · go_enter Tryd.func9, Tryd.ntmps9
      go_wp2_with (go_at_call 10; (with_reducible refine (sanity_any _ T).mono ?_); rintro e w1 ⟨rfl, hb⟩; replace Z := bcj Z hb; clear hb T)
      go_ret
      exact ⟨rfl, Z⟩
    · by_cases hab : a = b
      · subst hab
        have E1 := Lib.hid (fun W => eqT4 a W (by omega))
        have happ := appNil a
        clear hb
        go_enter Tryd.func9, Tryd.ntmps9
        go_wp2_with (first
          | (go_at_call 10; (with_reducible refine (sanity_any _ T).mono ?_); rintro e w1 ⟨rfl, hb⟩; replace Z := bcj Z hb; clear hb T)
          | (go_at_call 24; (with_reducible refine (E1.out _).mono ?_); rintro e w2 ⟨rfl, hb⟩; replace Z := bcj Z hb; clear hb))
        go_ret
        exact ⟨rfl, Z⟩
      · have E1 := Lib.hid (fun W => eqF4 a b W (by omega) hab)
        have E2 := Lib.hid (fun W => eqF4 b a W (by omega) (fun e => hab e.symm))
        have E3 := Lib.hid (fun W => eqT4 a W (by omega))
        have happ := appNil a
        have hq : (a == b) = false := by simpa using hab
        have hnl : ¬ (⟨a.toArray⟩ : ByteArray).toList = (⟨b.toArray⟩ : ByteArray).toList := by rw [ByteArray.toList_eq, ByteArray.toList_eq]; exact hab
        have hnb : ((⟨a.toArray⟩ : ByteArray).toList == (⟨b.toArray⟩ : ByteArray).toList) = false := by simpa using hnl
        clear hb hab
        go_enter Tryd.func9, Tryd.ntmps9
        go_wp2_with (first
          | (go_at_call 10; (with_reducible refine (sanity_any _ T).mono ?_); rintro e w1 ⟨rfl, hb⟩; replace Z := bcj Z hb; clear hb T)
          | (go_at_call 24; (with_reducible refine (E1.out _).mono ?_); rintro e w2 ⟨rfl, hb⟩; replace Z := bcj Z hb; clear hb)
          | (go_at_call 24; (with_reducible refine (E2.out _).mono ?_); rintro e w3 ⟨rfl, hb⟩; replace Z := bcj Z hb; clear hb)
          | (go_at_call 24; (with_reducible refine (E3.out _).mono ?_); rintro e w4 ⟨rfl, hb⟩; replace Z := bcj Z hb; clear hb))
        go_ret
        exact ⟨rfl, Z⟩

end Hash
end Go.Proofs.YtciinlncflngdaaDoor
