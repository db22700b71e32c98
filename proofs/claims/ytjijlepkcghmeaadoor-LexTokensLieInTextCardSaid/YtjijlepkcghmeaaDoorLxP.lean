/- What the package lex answers, as one structure; the examples of the statements. Condition: what the package answers. -/
import Derived.Test.YtjijlepkcghmeaaDoorLxQ
namespace Go.Proofs.YtjijlepkcghmeaaDoor
open Go.RowKit
namespace Lx
open Wire (bv sv Lies)

/-- A result of Tokens, as three values. -/
def GivesTk (r : Res) (w : World) (e : Ending) (w' : World) : Prop :=
  ∃ v n, e = .returned (.tuple #[v, .int .i64 (r.at_ : Int), .int .i64 (r.err : Int)]) ∧ OwnK w' w.heap.size v n (r.list.map Tok.ti) ∧ Below w.heap.size w w'
def GivesP2 (a b : Nat) (w : World) (e : Ending) (w' : World) : Prop := e = .returned (.tuple #[.int .i64 (a : Int), .int .i64 (b : Int)]) ∧ Below w.heap.size w w'
def GivesS (x : List UInt8) (w : World) (e : Ending) (w' : World) : Prop := e = .returned (.string ⟨x.toArray⟩) ∧ Below w.heap.size w w'
/-- What package lex answers; T: what it reads of the package's tables. -/
structure Pkg (T : World → Prop) : Prop where
  on : ∀ w w', Below w.heap.size w w' → T w → T w'
  tokens : ∀ (t : List UInt8) (w : World), t.length ≤ 1048576 → T w → Calls Tryd.prog 10 #[.string ⟨t.toArray⟩] w (GivesTk (read t) w)
  spot : ∀ (t : List UInt8) (i : Int) (w : World), t.length ≤ 1048576 → -9223372036854775808 ≤ i → i ≤ 9223372036854775807 → T w → Calls Tryd.prog 13 #[.string ⟨t.toArray⟩, .int .i64 i] w (GivesP2 (spot (1, 1) (t.take i.toNat)).1 (spot (1, 1) (t.take i.toNat)).2 w)
  join : ∀ (l : List TI) (n c : Nat) (A : Option Addr) (w : World), Lies w w.heap.size 4 A n c (cellsK l) → n ≤ 4200 → (∀ t ∈ l, t.text.length ≤ 4200) → T w → Calls Tryd.prog 15 #[.slice A n c] w (GivesS (Lx.join (l.map (·.text))) w)

def x1 : List UInt8 := [116, 121, 112, 101, 32, 97, 45, 49, 123, 108, 105, 102, 101, 32, 50, 104, 59, 125, 35, 120]
def x2 : List UInt8 := [97, 32, 49, 120]
def x3 : List UInt8 := [49, 48, 57, 57, 53, 49, 49, 54, 50, 55, 55, 55, 55]
def l7 : List Tok := [⟨1, [116, 121, 112, 101], 0, 0⟩, ⟨1, [97, 45, 49], 0, 5⟩, ⟨3, [123], 0, 8⟩, ⟨1, [108, 105, 102, 101], 0, 9⟩, ⟨2, [50, 104], 7200, 14⟩, ⟨3, [59], 0, 16⟩, ⟨3, [125], 0, 17⟩]
theorem read1 : read x1 = .ok l7 := by kernel_rfl
theorem read2 : read x2 = .bad 2 3 := by kernel_rfl
theorem read3 : read x3 = .bad 0 2 := by kernel_rfl
theorem spot1 : spot (1, 1) (([97, 10, 98, 99] : List UInt8).take (3 : Int).toNat) = (2, 2) := by kernel_rfl
def j7 : List UInt8 := [116, 121, 112, 101, 32, 97, 45, 49, 32, 123, 32, 108, 105, 102, 101, 32, 50, 104, 32, 59, 32, 125]
theorem join7 : Lx.join ((l7.map Tok.ti).map (·.text)) = j7 := by kernel_rfl
theorem eq_tok (W : World) : (binOp .eql 36 (.agg #[.int .i64 2, .string ⟨#[50, 104]⟩, .int .i64 7200, .int .i64 14]) (.agg #[.int .i64 2, .string ⟨#[50, 104]⟩, .int .i64 7200, .int .i64 14])).run Tryd.prog W = .ok (.bool true) W := by
  kernel_rfl
theorem own7 {w W : World} {v : Value} {n : Nat} (h : OwnK W w.heap.size v n (l7.map Tok.ti)) : ∃ g c, v = .slice (some ⟨g, 0, none⟩) 7 c ∧ OwnK W w.heap.size (.slice (some ⟨g, 0, none⟩) 7 c) 7 (l7.map Tok.ti) := by
  obtain rfl : 7 = n := h.len
  have h2 := h
  rcases h2.own.2 with ⟨_, h0⟩ | ⟨g, cap, cur, rfl, _⟩
  · cases h0
  · exact ⟨g, cap, rfl, h⟩
theorem own7_range {w W : World} {g c : Nat} (h : OwnK W w.heap.size (.slice (some ⟨g, 0, none⟩) 7 c) 7 (l7.map Tok.ti)) : W.rangeAt g 16 [.int .i64 2, .string ⟨#[50, 104]⟩, .int .i64 7200, .int .i64 14] := fun j u hu => by
  obtain ⟨A, c2, e, hl⟩ := h.form
  cases e
  obtain ⟨b, o, e2, _, hc⟩ := lies_tok (j := 4) (t := ⟨2, [50, 104], 7200, 14⟩) hl rfl
  cases e2
  have := hc j u hu
  rw [Nat.zero_add] at this
  exact this

set_option maxRecDepth 100000 in
set_option maxHeartbeats 4000000 in
theorem sanity_any {T : World → Prop} (pk : Pkg T) (w : World) (ht : T w) : Calls Tryd.prog 9 #[] w (GivesB true w) := by
  have Z := Below.refl w.heap.size w
  have H1 : Hid (∀ W, Below w.heap.size w W → Calls Tryd.prog 10 #[.string ⟨#[116, 121, 112, 101, 32, 97, 45, 49, 123, 108, 105, 102, 101, 32, 50, 104, 59, 125, 35, 120]⟩] W (fun e w' => ∃ g c, e = .returned (.tuple #[.slice (some ⟨g, 0, none⟩) 7 c, .int .i64 0, .int .i64 0]) ∧ OwnK w' W.heap.size (.slice (some ⟨g, 0, none⟩) 7 c) 7 (l7.map Tok.ti) ∧ Below W.heap.size W w')) := Lib.hid (fun W h => by
    have h2 := pk.tokens x1 W (by decide) (pk.on _ _ h ht)
    rw [read1] at h2
    refine h2.mono fun e w' ⟨v, n, he, ho, hb⟩ => ?_
    obtain ⟨g, c, rfl, ho2⟩ := own7 ho
    exact ⟨g, c, he, ho2, hb⟩)
  have H2 : Hid (∀ W, Below w.heap.size w W → Calls Tryd.prog 10 #[.string ⟨#[97, 32, 49, 120]⟩] W (fun e w' => ∃ v, e = .returned (.tuple #[v, .int .i64 2, .int .i64 3]) ∧ Below W.heap.size W w')) := Lib.hid (fun W h => by
    have h2 := pk.tokens x2 W (by decide) (pk.on _ _ h ht)
    rw [read2] at h2
    exact h2.mono fun e w' ⟨v, n, he, ho, hb⟩ => ⟨v, he, hb⟩)
  have H3 : Hid (∀ W, Below w.heap.size w W → Calls Tryd.prog 10 #[.string ⟨#[49, 48, 57, 57, 53, 49, 49, 54, 50, 55, 55, 55, 55]⟩] W (fun e w' => ∃ v, e = .returned (.tuple #[v, .int .i64 0, .int .i64 2]) ∧ Below W.heap.size W w')) := Lib.hid (fun W h => by
    have h2 := pk.tokens x3 W (by decide) (pk.on _ _ h ht)
    rw [read3] at h2
    exact h2.mono fun e w' ⟨v, n, he, ho, hb⟩ => ⟨v, he, hb⟩)
  have H4 : Hid (∀ W, Below w.heap.size w W → Calls Tryd.prog 13 #[.string ⟨#[97, 10, 98, 99]⟩, .int .i64 3] W (fun e w' => e = .returned (.tuple #[.int .i64 2, .int .i64 2]) ∧ Below W.heap.size W w')) := Lib.hid (fun W h => by
    have h2 := pk.spot [97, 10, 98, 99] 3 W (by decide) (by decide) (by decide) (pk.on _ _ h ht)
    rw [spot1] at h2
    exact h2)
  have H5 : Hid (∀ W g c base, Below w.heap.size w W → OwnK W base (.slice (some ⟨g, 0, none⟩) 7 c) 7 (l7.map Tok.ti) → Calls Tryd.prog 15 #[.slice (some ⟨g, 0, none⟩) 7 c] W (GivesS j7 W)) := Lib.hid (fun W g c base h ho => by
    obtain ⟨A, c2, e, hl⟩ := ho.form
    cases e
    have h2 := pk.join (l7.map Tok.ti) 7 c _ W hl (by decide) (by decide) (pk.on _ _ h ht)
    rw [join7] at h2
    exact h2)
  clear ht
  unfold j7 at H5
  have e1 := eq_tok
  go_enter Tryd.func9, Tryd.ntmps9
  go_wp2_with (first
    | (go_at_call 10; (with_reducible refine (H1.out _ Z).mono ?_); rintro e w1 ⟨g, c, rfl, ho, hb⟩; have HO := Lib.hid ho; replace Z := Wire.bc Z hb; clear ho hb)
    | (go_at_call 10; (with_reducible refine (H2.out _ Z).mono ?_); rintro e w2 ⟨v2, rfl, hb⟩; replace HO := Lib.hid (HO.out.on hb); replace Z := Wire.bc Z hb; clear hb)
    | (go_at_call 10; (with_reducible refine (H3.out _ Z).mono ?_); rintro e w3 ⟨v3, rfl, hb⟩; replace HO := Lib.hid (HO.out.on hb); replace Z := Wire.bc Z hb; clear hb)
    | (go_at_call 13; (with_reducible refine (H4.out _ Z).mono ?_); rintro e w4 ⟨rfl, hb⟩; replace HO := Lib.hid (HO.out.on hb); replace Z := Wire.bc Z hb; clear hb)
    | ((with_reducible refine Hash.at_slot 57 rfl ?_); refine QTail.loadG (by rfl) 36 (.tmp 56) rfl g 16 rfl [.int .i64 2, .string ⟨#[50, 104]⟩, .int .i64 7200, .int .i64 14] _ (own7_range HO.out) Tryd.underlying36 rfl (by kernel_rfl) ?_)
    | (go_at_call 15; (with_reducible refine (H5.out _ _ _ _ Z HO.out).mono ?_); rintro e w5 ⟨rfl, hb⟩; replace Z := Wire.bc Z hb; clear hb))
  go_ret
  exact ⟨rfl, Z⟩
end Lx
end Go.Proofs.YtjijlepkcghmeaaDoor
