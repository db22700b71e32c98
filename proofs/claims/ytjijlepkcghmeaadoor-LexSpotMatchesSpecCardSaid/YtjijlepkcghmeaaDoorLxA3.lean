/- Package lex: the closures of skip, word, number. Condition: what they have captured reads as said. -/
import Derived.Test.YtjijlepkcghmeaaDoorLxA2
import Derived.Test.YtjijlepkcghmeaaDoorLxO
import Derived.Test.YtjijlepkcghmeaaDoorShelf
namespace Go.Proofs.YtjijlepkcghmeaaDoor
open Go.RowKit
namespace Lx
open Wire (bv sv)
open Hash (Arr)

/-- A box that was laid behind the world w0. -/
structure Bx (w0 : World) (v : Value) (W : World) : Prop where
  cm : Arr W w0.heap.size 1 [v]
  z : Below w0.heap.size w0 W
theorem Bx.put {w0 W : World} {v : Value} (h : Bx w0 v W) (u : Value) : Bx w0 u (W.setCell ⟨w0.heap.size, 0, none⟩ u) :=
  ⟨h.cm.set (Nat.lt_succ_self 0) u, h.z.setCell (p := ⟨w0.heap.size, 0, none⟩) (Nat.le_refl _) _⟩
/-- Whether one stands in a comment behind a byte. -/
def cmt (b : Bool) (c : UInt8) : Bool := c == 35 || (b && !(c == 10))
theorem skip_cons (b : Bool) (c : UInt8) (r : List UInt8) : skip b (c :: r) = if (cmt b c || blank c) = true then skip (cmt b c) r else c :: r := by
  cases b
  · rw [skip]
    by_cases h : c = 35
    · subst h; rfl
    · rw [if_neg h]
      have e : cmt false c = false := by simp [cmt, h]
      rw [e, Bool.false_or]
  · rw [skip]
    by_cases h : c = 10
    · subst h; rfl
    · rw [if_neg h]
      have e : cmt true c = true := by simp [cmt, h]
      rw [e, Bool.true_or, if_pos rfl]

def goW (t : List UInt8) (k : Nat) (s : Unit) : Bool × Unit := (isW (hd (t.drop k)) || (hd (t.drop k) == 45 && isW (hd (t.drop (k + 1)))), s)
def goS (t : List UInt8) (k : Nat) (b : Bool) : Bool × Bool := (cmt b (hd (t.drop k)) || blank (hd (t.drop k)), cmt b (hd (t.drop k)))
def goN (t : List UInt8) (k : Nat) (n : Nat) : Bool × Nat := if digit (hd (t.drop k)) = true then (true, min (10 * n + ((hd (t.drop k)).toNat - 48)) cap) else (false, n)

theorem runW (t : List UInt8) : ∀ (f k : Nat), k ≤ t.length → f = t.length - k → (runF (goW t) f k ()).1 = k + wlen (t.drop k)
  | 0, k, hk, hf => by
    rw [List.drop_eq_nil_of_le (by omega)]
    rfl
  | f + 1, k, hk, hf => by
    have hd1 := drop_one (t := t) (k := k) (by omega)
    rw [runF]
    conv => rhs; rw [hd1, wlen]
    have ih := runW t f (k + 1) (by omega) (by omega)
    have e : hd (t.drop (k + 1)) = hd (t.drop (k + 1)) := rfl
    by_cases h : (goW t k ()).1 = true
    · rw [if_pos h, show (goW t k ()).2 = () from rfl, ih, if_pos (by exact h)]
      omega
    · rw [if_neg h, if_neg (by exact h)]
      rfl
theorem runS (t : List UInt8) : ∀ (f k : Nat) (b : Bool), k ≤ t.length → f = t.length - k → (runF (goS t) f k b).1 = t.length - (skip b (t.drop k)).length
  | 0, k, b, hk, hf => by
    rw [List.drop_eq_nil_of_le (by omega)]
    cases b <;> (simp [runF, skip]; omega)
  | f + 1, k, b, hk, hf => by
    have hd1 := drop_one (t := t) (k := k) (by omega)
    rw [runF]
    conv => rhs; rw [hd1, skip_cons]
    have ih := runS t f (k + 1) (goS t k b).2 (by omega) (by omega)
    by_cases h : (goS t k b).1 = true
    · rw [if_pos h, ih, if_pos (by exact h)]
      rfl
    · rw [if_neg h, if_neg (by exact h), ← hd1, List.length_drop]
      show k = _
      omega
theorem runN (t : List UInt8) : ∀ (f k n : Nat), k ≤ t.length → f = t.length - k → runF (goN t) f k n = (k + dlen (t.drop k), val n (t.drop k))
  | 0, k, n, hk, hf => by
    rw [List.drop_eq_nil_of_le (by omega)]
    rfl
  | f + 1, k, n, hk, hf => by
    have hd1 := drop_one (t := t) (k := k) (by omega)
    rw [runF]
    conv => rhs; rw [hd1, dlen, val]
    unfold goN
    by_cases h : digit (hd (t.drop k)) = true
    · rw [if_pos h, if_pos rfl, if_pos h, if_pos h]
      have ih := runN t f (k + 1) (min (10 * n + ((hd (t.drop k)).toNat - 48)) cap) (by omega) (by omega)
      unfold goN at ih
      rw [ih]
      congr 1
      omega
    · rw [if_neg h, if_neg (by simp), if_neg h, if_neg h]
      rfl

set_option maxRecDepth 100000 in
set_option maxHeartbeats 1000000 in
theorem cloW_any (t : List UInt8) (hl : t.length ≤ 1048576) (g : Nat) (k : Nat) (s : Unit) (w : World) (hk : k < t.length) (h0 : w.cell? ⟨g, 0, none⟩ = some (.string ⟨t.toArray⟩)) :
    Calls Tryd.prog 45 #[.int .i64 (k : Int), .pointer (some ⟨g, 0, none⟩)] w (Is (.bool (goW t k s).1) w) := by
  have hi := index_at t k hk
  have z0 : (k : Int) ≤ 1048576 := by omega
  have H1 := Lib.hid (isPart_any t k)
  have H2 : Hid (∀ W, Calls Tryd.prog 46 #[.string ⟨t.toArray⟩, .int .i64 ((k : Int) + 1)] W (Is (.bool (isW (hd (t.drop (k + 1))))) W)) := Lib.hid (fun W => isPart_any t (k + 1) W)
  have hg : (goW t k s).1 = (isW (hd (t.drop k)) || (hd (t.drop k) == 45 && isW (hd (t.drop (k + 1))))) := rfl
  have hb : (hd (t.drop k) == 45) = ((((hd (t.drop k)).toNat : Int)) == 45) := by
    rw [Bool.eq_iff_iff, beq_iff_eq, beq_iff_eq]
    exact (nat_of (d := 45)).symm
  rw [hg, hb]
  clear hg hb
  have z1 : 0 ≤ (((hd (t.drop k)).toNat : Int)) := by omega
  generalize (⟨t.toArray⟩ : ByteArray) = T at *
  generalize isW (hd (t.drop k)) = b1 at *
  generalize isW (hd (t.drop (k + 1))) = b2 at *
  generalize (((hd (t.drop k)).toNat : Int)) = x at *
  cases b1
  · by_cases h45 : x = 45
    · subst h45
      go_enter Tryd.func45, Tryd.ntmps45
      go_wp2_with (first
        | (go_at_call 46; (with_reducible refine (H1.out _).mono ?_); rintro e w1 ⟨rfl, rfl⟩)
        | (go_at_call 46; (with_reducible refine (H2.out _).mono ?_); rintro e w1 ⟨rfl, rfl⟩))
      go_ret
      exact ⟨by simp, rfl⟩
    · have h5 : (x == 45) = false := by simpa using h45
      rw [h5]
      go_enter Tryd.func45, Tryd.ntmps45
      go_wp2_with (first
        | (go_at_call 46; (with_reducible refine (H1.out _).mono ?_); rintro e w1 ⟨rfl, rfl⟩))
      go_ret
      exact ⟨by simp, rfl⟩
  · go_enter Tryd.func45, Tryd.ntmps45
    go_wp2_with (first
      | (go_at_call 46; (with_reducible refine (H1.out _).mono ?_); rintro e w1 ⟨rfl, rfl⟩))
    go_ret
    exact ⟨by simp, rfl⟩

set_option maxRecDepth 100000 in
set_option maxHeartbeats 1000000 in
theorem cloS_any (t : List UInt8) (g : Nat) (w0 : World) (hg : w0.cell? ⟨g, 0, none⟩ = some (.string ⟨t.toArray⟩)) (k : Nat) (b : Bool) (w : World) (hk : k < t.length) (Y : Bx w0 (.bool b) w) :
    Calls Tryd.prog 25 #[.int .i64 (k : Int), .pointer (some ⟨g, 0, none⟩), .pointer (some ⟨w0.heap.size, 0, none⟩)] w (fun e w' => e = .returned (.bool (goS t k b).1) ∧ Bx w0 (.bool (goS t k b).2) w') := by
  have hi := index_at t k hk
  have hgl := World.block_lt_of_cell? w0 _ hg
  have hne : ¬ g = w0.heap.size := by intro e; rw [e] at hgl; exact Nat.lt_irrefl _ hgl
  have h0 := (Y.z.cell hgl).trans hg
  obtain ⟨h1, f1⟩ := Y.cm.at_ (i := 0) rfl
  have HB := Lib.hid (isBlank_any (hd (t.drop k)))
  have HP : Hid (∀ u, Bx w0 u (w.setCell ⟨w0.heap.size, 0, none⟩ u)) := Lib.hid (fun u => Y.put u)
  have HY := Lib.hid Y
  have e1 : (goS t k b).1 = (cmt b (hd (t.drop k)) || blank (hd (t.drop k))) := rfl
  have e2 : (goS t k b).2 = cmt b (hd (t.drop k)) := rfl
  rw [e1, e2]
  clear Y hg e1 e2
  generalize (⟨t.toArray⟩ : ByteArray) = T at *
  generalize w0.heap.size = h at *
  generalize hd (t.drop k) = c at *
  by_cases h35 : (c.toNat : Int) = 35
  · have hc : c = 35 := (nat_of (d := 35)).1 h35
    have e3 : cmt b c = true := by rw [hc]; cases b <;> rfl
    rw [e3]
    go_enter Tryd.func25, Tryd.ntmps25
    go_wp2
    go_ret
    exact ⟨rfl, HP.out _⟩
  · by_cases h10 : (c.toNat : Int) = 10
    · have hc : c = 10 := (nat_of (d := 10)).1 h10
      have e3 : cmt b c = false := by rw [hc]; cases b <;> rfl
      have HB : Hid (∀ W, Calls Tryd.prog 26 #[.int .u8 10] W (Is (.bool true) W)) := Lib.hid (fun W => isBlank_any 10 W)
      rw [e3]
      go_enter Tryd.func25, Tryd.ntmps25
      go_wp2_with (first
        | (go_at_call 26; (with_reducible refine (HB.out _).mono ?_); rintro e w1 ⟨rfl, rfl⟩))
      go_ret
      exact ⟨by rw [hc]; rfl, HP.out _⟩
    · have e3 : cmt b c = b := by
        have z1 : (c == 35) = false := by simpa using fun e : c = 35 => h35 (by rw [e]; rfl)
        have z2 : (c == 10) = false := by simpa using fun e : c = 10 => h10 (by rw [e]; rfl)
        simp [cmt, z1, z2]
      rw [e3]
      cases b
      all_goals
        go_enter Tryd.func25, Tryd.ntmps25
        go_wp2_with (first
          | (go_at_call 26; (with_reducible refine (HB.out _).mono ?_); rintro e w1 ⟨rfl, rfl⟩))
        go_ret
        first | exact ⟨rfl, HY.out⟩ | exact ⟨by simp, HY.out⟩
end Lx
end Go.Proofs.YtjijlepkcghmeaaDoor
