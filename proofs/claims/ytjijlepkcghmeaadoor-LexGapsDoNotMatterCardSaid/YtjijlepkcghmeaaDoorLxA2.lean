/- Package lex: run, at its three closures. Condition: what the closure answers; the text is of at most 2^20 bytes. -/
import Derived.Test.YtjijlepkcghmeaaDoorLxA1
namespace Go.Proofs.YtjijlepkcghmeaaDoor
open Go.RowKit
namespace Lx
open Wire (bv sv)

/-- What run answers, by what the closure does: f rounds at most, from index k, in state s. -/
def runF {σ : Type} (go : Nat → σ → Bool × σ) : Nat → Nat → σ → Nat × σ
  | 0, k, s => (k, s)
  | f + 1, k, s => if (go k s).1 = true then runF go f (k + 1) (go k s).2 else (k, (go k s).2)

set_option maxRecDepth 100000 in
set_option maxHeartbeats 2000000 in
theorem run_skip {σ : Type} (Pm : World → σ → Prop) (go : Nat → σ → Bool × σ) (t : List UInt8) (hl : t.length ≤ 1048576) (c0 c1 : Value)
    (hc : ∀ (k : Nat) (s : σ) (W : World), k < t.length → Pm W s → Calls Tryd.prog 25 #[.int .i64 (k : Int), c0, c1] W (fun e W' => e = .returned (.bool (go k s).1) ∧ Pm W' (go k s).2))
    (k : Nat) (s : σ) (w : World) (hk : k ≤ t.length) (h : Pm w s) :
    Calls Tryd.prog 24 #[.string ⟨t.toArray⟩, .int .i64 (k : Int), .func (.func 25) #[] #[c0, c1]] w (fun e w' => e = .returned (.int .i64 ((runF go (t.length - k) k s).1 : Int)) ∧ Pm w' (runF go (t.length - k) k s).2) := by
  have hs := size_of t
  have HC := Lib.hid hc
  have HK := Lib.hid hk
  clear hc hk
  obtain ⟨R, hR⟩ : ∃ R, R = runF go (t.length - k) k s := ⟨_, rfl⟩
  rw [← hR]
  have HR := Lib.hid hR.symm
  clear hR
  generalize (⟨t.toArray⟩ : ByteArray) = T at *
  go_enter Tryd.func24, Tryd.ntmps24
  go_wp2
  go_loopw [1] (fun iv wr => ∃ (j : Nat) (z : σ), Hid (j ≤ t.length ∧ runF go (t.length - j) j z = R) ∧ iv = .int .i64 (j : Int) ∧ Pm wr z) (fun iv _ => ((t.length : Int) - intOf iv).toNat)
  case atStart => exact ⟨k, s, Lib.hid ⟨HK.out, HR.out⟩, rfl, h⟩
  case round =>
    clear h
    obtain ⟨j, z, HJ, rfl, h⟩ := hrel
    by_cases hj : j < t.length
    · have z1 : (j : Int) < (t.length : Int) := by omega
      have H1 := Lib.hid (HC.out j z wr hj h)
      have HE : Hid (runF go (t.length - j) j z = if (go j z).1 = true then runF go (t.length - (j + 1)) (j + 1) (go j z).2 else (j, (go j z).2)) := Lib.hid (by
        rw [show t.length - j = (t.length - (j + 1)) + 1 by omega]; rfl)
      have HJL := Lib.hid hj
      clear hj h
      generalize go j z = g at H1 HE
      obtain ⟨b, z2⟩ := g
      cases b
      · have HZ : Hid (R = (j, z2)) := Lib.hid (by rw [← HJ.out.2, HE.out]; rfl)
        go_wp2_with (go_at_call 25; (with_reducible refine H1.out.mono ?_); rintro e w1 ⟨rfl, hp⟩)
        go_ret
        exact ⟨by rw [HZ.out]; rfl, by rw [HZ.out]; exact hp⟩
      · have HZ : Hid (runF go (t.length - (j + 1)) (j + 1) z2 = R) := Lib.hid (by rw [← HJ.out.2, HE.out]; rfl)
        go_wp2_with (go_at_call 25; (with_reducible refine H1.out.mono ?_); rintro e w1 ⟨rfl, hp⟩)
        go_roundw
        case rel => exact ⟨j + 1, z2, Lib.hid ⟨HJL.out, HZ.out⟩, by go_num, hp⟩
        case measure => have := HJL.out; simp [intOf]; omega
    · have z1 : ¬ (j : Int) < (t.length : Int) := by omega
      have HZ : Hid (R = (j, z)) := Lib.hid (by
        have e := HJ.out.2
        rw [show t.length - j = 0 by omega] at e
        exact e.symm)
      go_wp2
      go_ret
      exact ⟨by rw [HZ.out]; rfl, by rw [HZ.out]; exact h⟩

set_option maxRecDepth 100000 in
set_option maxHeartbeats 2000000 in
theorem run_word {σ : Type} (Pm : World → σ → Prop) (go : Nat → σ → Bool × σ) (t : List UInt8) (hl : t.length ≤ 1048576) (c0 : Value)
    (hc : ∀ (k : Nat) (s : σ) (W : World), k < t.length → Pm W s → Calls Tryd.prog 45 #[.int .i64 (k : Int), c0] W (fun e W' => e = .returned (.bool (go k s).1) ∧ Pm W' (go k s).2))
    (k : Nat) (s : σ) (w : World) (hk : k ≤ t.length) (h : Pm w s) :
    Calls Tryd.prog 24 #[.string ⟨t.toArray⟩, .int .i64 (k : Int), .func (.func 45) #[] #[c0]] w (fun e w' => e = .returned (.int .i64 ((runF go (t.length - k) k s).1 : Int)) ∧ Pm w' (runF go (t.length - k) k s).2) := by
  have hs := size_of t
  have HC := Lib.hid hc
  have HK := Lib.hid hk
  clear hc hk
  obtain ⟨R, hR⟩ : ∃ R, R = runF go (t.length - k) k s := ⟨_, rfl⟩
  rw [← hR]
  have HR := Lib.hid hR.symm
  clear hR
  generalize (⟨t.toArray⟩ : ByteArray) = T at *
  go_enter Tryd.func24, Tryd.ntmps24
  go_wp2
  go_loopw [1] (fun iv wr => ∃ (j : Nat) (z : σ), Hid (j ≤ t.length ∧ runF go (t.length - j) j z = R) ∧ iv = .int .i64 (j : Int) ∧ Pm wr z) (fun iv _ => ((t.length : Int) - intOf iv).toNat)
  case atStart => exact ⟨k, s, Lib.hid ⟨HK.out, HR.out⟩, rfl, h⟩
  case round =>
    clear h
    obtain ⟨j, z, HJ, rfl, h⟩ := hrel
    by_cases hj : j < t.length
    · have z1 : (j : Int) < (t.length : Int) := by omega
      have H1 := Lib.hid (HC.out j z wr hj h)
      have HE : Hid (runF go (t.length - j) j z = if (go j z).1 = true then runF go (t.length - (j + 1)) (j + 1) (go j z).2 else (j, (go j z).2)) := Lib.hid (by
        rw [show t.length - j = (t.length - (j + 1)) + 1 by omega]; rfl)
      have HJL := Lib.hid hj
      clear hj h
      generalize go j z = g at H1 HE
      obtain ⟨b, z2⟩ := g
      cases b
      · have HZ : Hid (R = (j, z2)) := Lib.hid (by rw [← HJ.out.2, HE.out]; rfl)
        go_wp2_with (go_at_call 45; (with_reducible refine H1.out.mono ?_); rintro e w1 ⟨rfl, hp⟩)
        go_ret
        exact ⟨by rw [HZ.out]; rfl, by rw [HZ.out]; exact hp⟩
      · have HZ : Hid (runF go (t.length - (j + 1)) (j + 1) z2 = R) := Lib.hid (by rw [← HJ.out.2, HE.out]; rfl)
        go_wp2_with (go_at_call 45; (with_reducible refine H1.out.mono ?_); rintro e w1 ⟨rfl, hp⟩)
        go_roundw
        case rel => exact ⟨j + 1, z2, Lib.hid ⟨HJL.out, HZ.out⟩, by go_num, hp⟩
        case measure => have := HJL.out; simp [intOf]; omega
    · have z1 : ¬ (j : Int) < (t.length : Int) := by omega
      have HZ : Hid (R = (j, z)) := Lib.hid (by
        have e := HJ.out.2
        rw [show t.length - j = 0 by omega] at e
        exact e.symm)
      go_wp2
      go_ret
      exact ⟨by rw [HZ.out]; rfl, by rw [HZ.out]; exact h⟩

set_option maxRecDepth 100000 in
set_option maxHeartbeats 2000000 in
theorem run_number {σ : Type} (Pm : World → σ → Prop) (go : Nat → σ → Bool × σ) (t : List UInt8) (hl : t.length ≤ 1048576) (c0 c1 : Value)
    (hc : ∀ (k : Nat) (s : σ) (W : World), k < t.length → Pm W s → Calls Tryd.prog 47 #[.int .i64 (k : Int), c0, c1] W (fun e W' => e = .returned (.bool (go k s).1) ∧ Pm W' (go k s).2))
    (k : Nat) (s : σ) (w : World) (hk : k ≤ t.length) (h : Pm w s) :
    Calls Tryd.prog 24 #[.string ⟨t.toArray⟩, .int .i64 (k : Int), .func (.func 47) #[] #[c0, c1]] w (fun e w' => e = .returned (.int .i64 ((runF go (t.length - k) k s).1 : Int)) ∧ Pm w' (runF go (t.length - k) k s).2) := by
  have hs := size_of t
  have HC := Lib.hid hc
  have HK := Lib.hid hk
  clear hc hk
  obtain ⟨R, hR⟩ : ∃ R, R = runF go (t.length - k) k s := ⟨_, rfl⟩
  rw [← hR]
  have HR := Lib.hid hR.symm
  clear hR
  generalize (⟨t.toArray⟩ : ByteArray) = T at *
  go_enter Tryd.func24, Tryd.ntmps24
  go_wp2
  go_loopw [1] (fun iv wr => ∃ (j : Nat) (z : σ), Hid (j ≤ t.length ∧ runF go (t.length - j) j z = R) ∧ iv = .int .i64 (j : Int) ∧ Pm wr z) (fun iv _ => ((t.length : Int) - intOf iv).toNat)
  case atStart => exact ⟨k, s, Lib.hid ⟨HK.out, HR.out⟩, rfl, h⟩
  case round =>
    clear h
    obtain ⟨j, z, HJ, rfl, h⟩ := hrel
    by_cases hj : j < t.length
    · have z1 : (j : Int) < (t.length : Int) := by omega
      have H1 := Lib.hid (HC.out j z wr hj h)
      have HE : Hid (runF go (t.length - j) j z = if (go j z).1 = true then runF go (t.length - (j + 1)) (j + 1) (go j z).2 else (j, (go j z).2)) := Lib.hid (by
        rw [show t.length - j = (t.length - (j + 1)) + 1 by omega]; rfl)
      have HJL := Lib.hid hj
      clear hj h
      generalize go j z = g at H1 HE
      obtain ⟨b, z2⟩ := g
      cases b
      · have HZ : Hid (R = (j, z2)) := Lib.hid (by rw [← HJ.out.2, HE.out]; rfl)
        go_wp2_with (go_at_call 47; (with_reducible refine H1.out.mono ?_); rintro e w1 ⟨rfl, hp⟩)
        go_ret
        exact ⟨by rw [HZ.out]; rfl, by rw [HZ.out]; exact hp⟩
      · have HZ : Hid (runF go (t.length - (j + 1)) (j + 1) z2 = R) := Lib.hid (by rw [← HJ.out.2, HE.out]; rfl)
        go_wp2_with (go_at_call 47; (with_reducible refine H1.out.mono ?_); rintro e w1 ⟨rfl, hp⟩)
        go_roundw
        case rel => exact ⟨j + 1, z2, Lib.hid ⟨HJL.out, HZ.out⟩, by go_num, hp⟩
        case measure => have := HJL.out; simp [intOf]; omega
    · have z1 : ¬ (j : Int) < (t.length : Int) := by omega
      have HZ : Hid (R = (j, z)) := Lib.hid (by
        have e := HJ.out.2
        rw [show t.length - j = 0 by omega] at e
        exact e.symm)
      go_wp2
      go_ret
      exact ⟨by rw [HZ.out]; rfl, by rw [HZ.out]; exact h⟩
end Lx
end Go.Proofs.YtjijlepkcghmeaaDoor
