/- The walk of the statement that the decoders return what the specification says. Condition: the slice's cells read as the bytes. -/
import Derived.Test.YtlpkiaeimcoplaaCanonW
import Derived.Test.YtlpkiaeimcoplaaRefGet
import Derived.Test.YtlpkiaeimcoplaaRefList
import Derived.Test.YtlpkiaeimcoplaaRefDig
namespace Go.Proofs.Ytlpkiaeimcoplaa
open Go.RowKit
namespace Wire

theorem own_lies {w : World} {base size n : Nat} {e : TypeId} {v : Value} {xs : List Value} (h : w.ownsRow base e size v n xs) : ∃ E c, v = .slice E n c ∧ Lies w w.heap.size size E n c xs := by
  have hf := h
  rcases hf.2 with ⟨rfl, rfl⟩ | ⟨g, cap, cur, rfl, _⟩
  · have hx : xs = [] := List.eq_nil_of_length_eq_zero (by have := h.1; omega)
    subst hx
    exact ⟨none, 0, rfl, lies_none _ _ _⟩
  · exact ⟨_, _, rfl, lies_own h⟩

/-- What both decoders of integers return. -/
def IsI (v : Int) (u x : Nat) (W : World) (e : Ending) (w' : World) : Prop := e = .returned (.tuple #[.int .i64 v, .int .i64 (u : Int), .int .i64 (x : Int)]) ∧ Below W.heap.size W w'
def IsS (s : List UInt8) (u x : Nat) (W : World) (e : Ending) (w' : World) : Prop := e = .returned (.tuple #[.string ⟨s.toArray⟩, .int .i64 (u : Int), .int .i64 (x : Int)]) ∧ Below W.heap.size W w'
def IsL (size : Nat) (cs : List Value) (m u x : Nat) (W : World) (e : Ending) (w' : World) : Prop :=
  ∃ E c, e = .returned (.tuple #[.slice E m c, .int .i64 (u : Int), .int .i64 (x : Int)]) ∧ Below W.heap.size W w' ∧ Lies w' w'.heap.size size E m c cs

section
variable (bs : List UInt8) (n c : Nat) (A : Option Addr)

theorem bothI : ∃ (v : Int) (u x : Nat), (∀ W, Lies W W.heap.size 1 A n c (bs.map bv) → Calls Try.prog 24 #[.slice A n c] W (IsI v u x W)) ∧
    (∀ W, Lies W W.heap.size 1 A n c (bs.map bv) → Calls Try.prog 25 #[.slice A n c] W (IsI v u x W)) := by
  cases hd : dec bs with
  | error x =>
    exact ⟨0, 0, x, fun W h => (get_err h hd).mono fun e w' ⟨he, hw⟩ => ⟨he, by rw [← hw]; exact Below.refl _ _⟩, fun W h => (refGet_err h hd).mono fun e w' ⟨he, hw⟩ => ⟨he, hw⟩⟩
  | ok p =>
    obtain ⟨v, u⟩ := p
    exact ⟨v, u, 0, fun W h => (get_ok h hd).mono fun e w' ⟨he, hw⟩ => ⟨he, by rw [← hw]; exact Below.refl _ _⟩, fun W h => (refGet_ok h hd).mono fun e w' ⟨he, hw⟩ => ⟨he, hw⟩⟩

theorem bothS (hn : n ≤ 2000) : ∃ (s : List UInt8) (u x : Nat), (∀ W, Lies W W.heap.size 1 A n c (bs.map bv) → Calls Try.prog 26 #[.slice A n c] W (IsS s u x W)) ∧
    (∀ W, Lies W W.heap.size 1 A n c (bs.map bv) → Calls Try.prog 27 #[.slice A n c] W (IsS s u x W)) := by
  cases hd : decStr bs with
  | error x =>
    exact ⟨[], 0, x, fun W h => (str_err h hd).mono fun e w' ⟨he, hw⟩ => ⟨he, by rw [← hw]; exact Below.refl _ _⟩, fun W h => (refStr_err h (by omega) hd).mono fun e w' ⟨he, hw⟩ => ⟨he, hw⟩⟩
  | ok p =>
    obtain ⟨s, u⟩ := p
    exact ⟨s, u, 0, fun W h => (str_ok h hd).mono fun e w' ⟨he, hw⟩ => ⟨he, by rw [← hw]; exact Below.refl _ _⟩, fun W h => (refStr_ok h (by omega) hd).mono fun e w' ⟨he, hw⟩ => ⟨he, hw⟩⟩

theorem bothL (hn : n ≤ 2000) : ∃ (l : List Int) (u x : Nat), (∀ W, Lies W W.heap.size 1 A n c (bs.map bv) → Calls Try.prog 28 #[.slice A n c] W (IsL 1 (l.map iv) l.length u x W)) ∧
    (∀ W, Lies W W.heap.size 1 A n c (bs.map bv) → Calls Try.prog 29 #[.slice A n c] W (IsL 1 (l.map iv) l.length u x W)) := by
  cases hd : decList dec 1 bs with
  | error x =>
    refine ⟨[], 0, x, fun W h => ?_, fun W h => ?_⟩
    · have hc := getInts_any bs n c A W h (by omega)
      rw [hd] at hc
      exact hc.mono fun e w' ⟨he, hw⟩ => ⟨none, 0, he, hw, lies_none _ _ _⟩
    · have hc := refList_int bs n c A W h (by omega)
      rw [hd] at hc
      exact hc.mono fun e w' ⟨he, hw⟩ => ⟨none, 0, he, hw, lies_none _ _ _⟩
  | ok p =>
    obtain ⟨l, u⟩ := p
    refine ⟨l, u, 0, fun W h => ?_, fun W h => ?_⟩
    · have hc := getInts_any bs n c A W h (by omega)
      rw [hd] at hc
      exact hc.mono fun e w' ⟨g, he, ho, hw⟩ => ⟨some ⟨g, 0, none⟩, _, he, hw, lies_own ho⟩
    · have hc := refList_int bs n c A W h (by omega)
      rw [hd] at hc
      refine hc.mono fun e w' ⟨v, he, ho, hw⟩ => ?_
      obtain ⟨E, cc, rfl, hL⟩ := own_lies ho
      exact ⟨E, cc, he, hw, hL⟩

theorem bothT (hn : n ≤ 2000) : ∃ (l : List (List UInt8)) (u x : Nat), (∀ W, Lies W W.heap.size 1 A n c (bs.map bv) → Calls Try.prog 31 #[.slice A n c] W (IsL 1 (l.map sv) l.length u x W)) ∧
    (∀ W, Lies W W.heap.size 1 A n c (bs.map bv) → Calls Try.prog 32 #[.slice A n c] W (IsL 1 (l.map sv) l.length u x W)) := by
  cases hd : decList decStr 1 bs with
  | error x =>
    refine ⟨[], 0, x, fun W h => ?_, fun W h => ?_⟩
    · have hc := getStrings_any bs n c A W h (by omega)
      rw [hd] at hc
      exact hc.mono fun e w' ⟨he, hw⟩ => ⟨none, 0, he, hw, lies_none _ _ _⟩
    · have hc := refList_str bs n c A W h (by omega)
      rw [hd] at hc
      exact hc.mono fun e w' ⟨he, hw⟩ => ⟨none, 0, he, hw, lies_none _ _ _⟩
  | ok p =>
    obtain ⟨l, u⟩ := p
    refine ⟨l, u, 0, fun W h => ?_, fun W h => ?_⟩
    · have hc := getStrings_any bs n c A W h (by omega)
      rw [hd] at hc
      exact hc.mono fun e w' ⟨g, he, ho, hw⟩ => ⟨some ⟨g, 0, none⟩, _, he, hw, lies_own ho⟩
    · have hc := refList_str bs n c A W h (by omega)
      rw [hd] at hc
      refine hc.mono fun e w' ⟨v, he, ho, hw⟩ => ?_
      obtain ⟨E, cc, rfl, hL⟩ := own_lies ho
      exact ⟨E, cc, he, hw, hL⟩

theorem bothD (hn : n ≤ 2000) (hb : bs.length = n) : ∃ (l : List (List UInt8)) (u x : Nat), (∀ d ∈ l, d.length = 16) ∧ (∀ W, Lies W W.heap.size 1 A n c (bs.map bv) → Calls Try.prog 34 #[.slice A n c] W (IsL 16 (digCells l) l.length u x W)) ∧
    (∀ W, Lies W W.heap.size 1 A n c (bs.map bv) → Calls Try.prog 35 #[.slice A n c] W (IsL 16 (digCells l) l.length u x W)) := by
  cases hd : decList decDig 16 bs with
  | error x =>
    refine ⟨[], 0, x, by simp, fun W h => ?_, fun W h => ?_⟩
    · have hc := getDigests_any bs n c A W h (by omega)
      rw [hd] at hc
      exact hc.mono fun e w' ⟨he, hw⟩ => ⟨none, 0, he, hw, lies_none _ _ _⟩
    · have hc := refList_dig bs n c A W h (by omega)
      rw [hd] at hc
      exact hc.mono fun e w' ⟨he, hw⟩ => ⟨none, 0, he, hw, lies_none _ _ _⟩
  | ok p =>
    obtain ⟨l, u⟩ := p
    obtain ⟨h1, h2, k, h3, h4, h5⟩ := decList_take (f := fun d => d) (fun c v k h => by simp only [decDig, Except.ok.injEq, Prod.mk.injEq] at h; rw [← h.1, ← h.2]) hd
    have h6 : k + 16 * l.length ≤ bs.length := by omega
    obtain ⟨h7, h8⟩ := decMany_dig bs l.length k l u h6 h3
    refine ⟨l, u, 0, h8, fun W h => ?_, fun W h => ?_⟩
    · have hc := getDigests_any bs n c A W h (by omega)
      rw [hd] at hc
      exact hc.mono fun e w' ⟨g, he, ho, hw⟩ => ⟨some ⟨g, 0, none⟩, _, he, hw, lies_own ho⟩
    · have hc := refList_dig bs n c A W h (by omega)
      rw [hd] at hc
      refine hc.mono fun e w' ⟨v, he, ho, hw⟩ => ?_
      obtain ⟨E, cc, rfl, hL⟩ := own_lies ho
      exact ⟨E, cc, he, hw, hL⟩
end

theorem told_true {W : World} {b : Bool} {e : Ending} {w' : World} (h : Told W b e w') (hb : b = true) : e = .returned (.bool true) ∧ Below W.heap.size W w' := yes_of h hb (Below.refl _ _)
theorem sameI (l : List Int) (c d : Nat) (A E : Option Addr) (W : World) (hx : Lies W W.heap.size 1 A l.length c (l.map iv)) (hy : Lies W W.heap.size 1 E l.length d (l.map iv)) :
    Calls Try.prog 30 #[.slice A l.length c, .slice E l.length d] W (Yes W) :=
  (same_ints _ _ _ _ _ _ _ _ _ _ hx hy).mono fun _ _ h => told_true h (by simp)
theorem sameT (l : List (List UInt8)) (c d : Nat) (A E : Option Addr) (W : World) (hx : Lies W W.heap.size 1 A l.length c (l.map sv)) (hy : Lies W W.heap.size 1 E l.length d (l.map sv)) :
    Calls Try.prog 33 #[.slice A l.length c, .slice E l.length d] W (Yes W) :=
  (same_texts _ _ _ _ _ _ _ _ _ _ hx hy).mono fun _ _ h => told_true h (by simp)
theorem sameD (l : List (List UInt8)) (c d : Nat) (A E : Option Addr) (W : World) (hx : Lies W W.heap.size 16 A l.length c (digCells l)) (hy : Lies W W.heap.size 16 E l.length d (digCells l)) (h1 : ∀ x ∈ l, x.length = 16) :
    Calls Try.prog 36 #[.slice A l.length c, .slice E l.length d] W (Yes W) :=
  (same_digs _ _ _ _ _ _ _ _ _ _ hx hy rfl rfl h1 h1).mono fun _ _ h => told_true h (by simp)

set_option maxRecDepth 100000 in
set_option maxHeartbeats 4000000 in
theorem decode_any (bs : List UInt8) (n c : Nat) (A : Option Addr) (w : World) (hl : Lies w w.heap.size 1 A n c (bs.map bv)) :
    Calls Try.prog 4 #[.slice A n c] w (Yes w) := by
  have hmost : c ≤ 9223372036854775807 := by have := hl.most; unfold maxLen at this; omega
  have hle := hl.le
  by_cases h2 : (2000 : Int) < n
  · go_enter Try.func4, Try.ntmps4
    go_wp2_with (go_at_call 12; refine (sanity_any _).mono ?_; rintro e w1 ⟨rfl, hb⟩)
    go_ret
    exact ⟨rfl, hb⟩
  · have hbl : bs.length = n := by have := hl.len; simpa using this
    have hnn : n ≤ 2000 := by omega
    obtain ⟨vI, uI, xI, wI, rI⟩ := bothI bs n c A
    obtain ⟨vS, uS, xS, wS, rS⟩ := bothS bs n c A hnn
    obtain ⟨vL, uL, xL, wL, rL⟩ := bothL bs n c A hnn
    obtain ⟨vT, uT, xT, wT, rT⟩ := bothT bs n c A hnn
    obtain ⟨vD, uD, xD, h16, wD, rD⟩ := bothD bs n c A hnn hbl
    have hss : (vS == vS) = true := by simp
    have zb := Below.refl w.heap.size w
    have bl := hl
    have HBL := Lib.hid hbl; clear hbl
    go_enter Try.func4, Try.ntmps4
    go_wp2_with (first
      | (go_at_call 24; (with_reducible refine (wI _ bl).mono ?_); rintro e w1 ⟨rfl, hb⟩; replace zb := bc zb hb; replace bl := bl.on hb; clear hb)
      | (go_at_call 25; (with_reducible refine (rI _ bl).mono ?_); rintro e w2 ⟨rfl, hb⟩; replace zb := bc zb hb; replace bl := bl.on hb; clear hb)
      | (go_at_call 26; (with_reducible refine (wS _ bl).mono ?_); rintro e w3 ⟨rfl, hb⟩; replace zb := bc zb hb; replace bl := bl.on hb; clear hb)
      | (go_at_call 27; (with_reducible refine (rS _ bl).mono ?_); rintro e w4 ⟨rfl, hb⟩; replace zb := bc zb hb; replace bl := bl.on hb; clear hb)
      | (go_at_call 28; (with_reducible refine (wL _ bl).mono ?_); rintro e w5 ⟨E5, k5, rfl, hb, r5⟩; replace zb := bc zb hb; replace bl := bl.on hb; clear hb)
      | (go_at_call 29; (with_reducible refine (rL _ bl).mono ?_); rintro e w6 ⟨E6, k6, rfl, hb, r6⟩; replace zb := bc zb hb; replace bl := bl.on hb; replace r5 := r5.on hb; clear hb)
      | (go_at_call 30; (with_reducible refine (sameI vL _ _ _ _ _ r5 r6).mono ?_); rintro e w7 ⟨rfl, hb⟩; replace zb := bc zb hb; replace bl := bl.on hb; clear hb r5 r6)
      | (go_at_call 31; (with_reducible refine (wT _ bl).mono ?_); rintro e w8 ⟨E8, k8, rfl, hb, r8⟩; replace zb := bc zb hb; replace bl := bl.on hb; clear hb)
      | (go_at_call 32; (with_reducible refine (rT _ bl).mono ?_); rintro e w9 ⟨E9, k9, rfl, hb, r9⟩; replace zb := bc zb hb; replace bl := bl.on hb; replace r8 := r8.on hb; clear hb)
      | (go_at_call 33; (with_reducible refine (sameT vT _ _ _ _ _ r8 r9).mono ?_); rintro e w10 ⟨rfl, hb⟩; replace zb := bc zb hb; replace bl := bl.on hb; clear hb r8 r9)
      | (go_at_call 34; (with_reducible refine (wD _ bl).mono ?_); rintro e w11 ⟨E11, k11, rfl, hb, r11⟩; replace zb := bc zb hb; replace bl := bl.on hb; clear hb)
      | (go_at_call 35; (with_reducible refine (rD _ bl).mono ?_); rintro e w12 ⟨E12, k12, rfl, hb, r12⟩; replace zb := bc zb hb; replace bl := bl.on hb; replace r11 := r11.on hb; clear hb)
      | (go_at_call 12; (with_reducible refine (sanity_any _).mono ?_); rintro e w13 ⟨rfl, hb⟩; replace zb := bc zb hb; replace r11 := r11.on hb; replace r12 := r12.on hb; clear hb)
      | (go_at_call 36; (with_reducible refine (sameD vD _ _ _ _ _ r11 r12 h16).mono ?_); rintro e w14 ⟨rfl, hb⟩; replace zb := bc zb hb; clear hb r11 r12))
    go_ret
    exact ⟨rfl, zb⟩

end Wire
end Go.Proofs.Ytlpkiaeimcoplaa
