/- What package kdf answers, as one (a hypothesis here); the examples that every statement plays first. Condition: the table of round constants reads as the program lays it. -/
import Derived.Test.YtoenkckoomfgeaaDoorKRefB
import Derived.Test.YtoenkckoomfgeaaDoorKEx
namespace Go.Proofs.YtoenkckoomfgeaaDoor
open Go.RowKit
namespace Kdf
open Hash (Table tabj bcj GivesT sizeS Arr)
open Wire (encStr bv sv Lies b1 lies_lit)

/-- What the package answers. -/
structure Pkg : Prop where
  deriveP : ∀ (key label : List UInt8) (parts : List (List UInt8)) (n c : Nat) (A : Option Addr) (W : World), Lies W W.heap.size 1 A n c (parts.map sv) → key.length ≤ 400000 → (input label parts).length ≤ 400000 → Table 1 W →
    Calls Tryd.prog 11 #[.string ⟨key.toArray⟩, .string ⟨label.toArray⟩, .slice A n c] W (GivesT (derive key label parts) W)
  pathP : ∀ (key : List UInt8) (l : List (List UInt8)) (n c : Nat) (A : Option Addr) (W : World), Lies W W.heap.size 1 A n c (l.map sv) → key.length ≤ 400000 → (∀ s ∈ l, s.length ≤ 100000) → Table 1 W →
    Calls Tryd.prog 13 #[.string ⟨key.toArray⟩, .slice A n c] W (GivesT (path key l) W)
  nextP : ∀ (s : List UInt8) (W : World), s.length ≤ 100000 → Table 1 W →
    Calls Tryd.prog 17 #[.agg #[.string ⟨s.toArray⟩]] W (GivesR (val s) (nxt s) W)
  bytesP : ∀ (s : List UInt8) (n : Int) (W : World), s.length ≤ 100000 → Table 1 W →
    Calls Tryd.prog 19 #[.agg #[.string ⟨s.toArray⟩], .int .i64 n] W (GivesR (bytesR s n).1 (bytesR s n).2 W)

theorem input_one {label : List UInt8} (hl : label.length ≤ 100000) : (input label []).length ≤ 400000 := by
  have := Wire.enc_length_le (n := (label.length : Int)) (by omega)
  simp only [input, encStr, List.flatMap_nil, List.append_nil, List.length_append]
  omega
theorem Pkg.none (P : Pkg) (key label : List UInt8) (W : World) (hk : key.length ≤ 400000) (hl : label.length ≤ 100000) (ht : Table 1 W) :
    Calls Tryd.prog 11 #[.string ⟨key.toArray⟩, .string ⟨label.toArray⟩, .slice none 0 0] W (GivesT (derive key label []) W) :=
  P.deriveP key label [] 0 0 Option.none W (lies_none _ _) hk (input_one hl) ht

/-- A new block of one cell is kept by a call. -/
theorem kept {f : FuncId} {args : Array Value} {g : Nat} {R : Ending → Prop} (h : ∀ W, Table g W → Calls Tryd.prog f args W (fun e w' => R e ∧ Below W.heap.size W w')) (x : Value) (t : TypeId) (W : World) (hT : Table g W) :
    Calls Tryd.prog f args (W.alloc (.cells #[x] t)) (fun e w' => R e ∧ Below W.heap.size W w' ∧ Arr w' W.heap.size 1 [x]) := by
  have hb := b1 W (.cells #[x] t)
  have ha := Hash.arr_new W #[x] t
  refine (h _ (tabj hT hb)).mono fun e w' ⟨he, hb2⟩ => ⟨he, bcj hb hb2, ha.below hb2 (by simp)⟩

theorem keptA {xs : List Value} {W W2 : World} {g n : Nat} (h : Arr W g n xs) (hb : Below W.heap.size W W2) (hn : 0 < n) : Arr W2 g n xs := h.below hb (h.size hn)
theorem cellA {W : World} {g : Nat} {x : Value} (h : Arr W g 1 [x]) : W.cell? ⟨g, 0, none⟩ = some x := (h.at_ (i := 0) rfl).1

/-- Both tables are there, and what was there is as it was. -/
structure T2 (w W : World) : Prop where
  rt : Table 1 W
  ct : Table 0 W
  bel : Below w.heap.size w W
theorem T2.on {w W W2 : World} (h : T2 w W) (hb : Below W.heap.size W W2) : T2 w W2 := ⟨tabj h.rt hb, tabj h.ct hb, bcj h.bel hb⟩

theorem eqS (a b : List UInt8) (W : World) : (Op.equalIn 10000 9 (.string ⟨a.toArray⟩) (.string ⟨b.toArray⟩)).run Tryd.prog W = .ok (decide (a = b)) W := by
  rw [run_equalIn_string W 9999 9 _ _ Tryd.underlying9]
  congr 1
  by_cases h : a = b
  · subst h; simp
  · rw [decide_eq_false h]
    simp only [beq_eq_false_iff_ne, ne_eq]
    intro h2
    have h3 : (⟨a.toArray⟩ : ByteArray).toList = a := by simp
    have h4 : (⟨b.toArray⟩ : ByteArray).toList = b := by simp
    rw [h3, h4] at h2
    exact h h2
theorem eqT (a : List UInt8) (W : World) : (Op.equalIn 10000 9 (.string ⟨a.toArray⟩) (.string ⟨a.toArray⟩)).run Tryd.prog W = .ok true W := by rw [eqS]; simp
theorem eqF {a b : List UInt8} (h : ¬ a = b) (W : World) : (Op.equalIn 10000 9 (.string ⟨a.toArray⟩) (.string ⟨b.toArray⟩)).run Tryd.prog W = .ok false W := by rw [eqS, decide_eq_false h]

def Yes (w : World) (e : Ending) (w' : World) : Prop := e = .returned (.bool true) ∧ Below w.heap.size w w'

set_option maxRecDepth 100000 in
set_option maxHeartbeats 2000000 in
theorem sanity_any (P : Pkg) (w : World) (h : Table 1 w) : Calls Tryd.prog 9 #[] w (Yes w) := by
  have F1 : Hid (∀ W, Table 1 W → Calls Tryd.prog 11 #[.string ⟨#[107]⟩, .string ⟨#[97]⟩, .slice none 0 0] W (GivesT exA W)) := Lib.hid (fun W hT => by
    have := P.none [107] [97] W (by decide) (by decide) hT
    rwa [ex_a] at this)
  have F2 : Hid (∀ W, Table 1 W → Calls Tryd.prog 13 #[.string ⟨#[107]⟩, .slice (some ⟨W.heap.size, 0, none⟩) 2 2] (W.alloc (.cells #[.string ⟨#[97]⟩, .string ⟨#[98]⟩] 9)) (GivesT exB W)) := Lib.hid (fun W hT => by
    have hl := lies_lit W #[.string ⟨#[97]⟩, .string ⟨#[98]⟩] 9 ([[97], [98]].map sv) rfl (by decide)
    have hb := b1 W (.cells #[.string ⟨#[97]⟩, .string ⟨#[98]⟩] 9)
    have := P.pathP [107] [[97], [98]] 2 2 _ _ hl (by decide) (by decide) (tabj hT hb)
    rw [ex_path] at this
    exact this.mono fun e w' ⟨he, hb2⟩ => ⟨he, bcj hb hb2⟩)
  have F3 : Hid (∀ W, Table 1 W → Calls Tryd.prog 17 #[.agg #[.string ⟨#[115]⟩]] W (GivesR exV exS W)) := Lib.hid (fun W hT => by
    have := P.nextP [115] W (by decide) hT
    rwa [ex_v, ex_s] at this)
  have F4 : Hid (∀ W, Table 1 W → Calls Tryd.prog 19 #[.agg #[.string ⟨#[115]⟩], .int .i64 40] (W.alloc (.cells #[.string ⟨exS.toArray⟩] 33)) (fun e w' => e = .returned (.tuple #[.string ⟨(bytes [115] 40).toArray⟩, .agg #[.string ⟨(after [115] 2).toArray⟩]]) ∧ Below W.heap.size W w' ∧ Arr w' W.heap.size 1 [.string ⟨exS.toArray⟩])) := Lib.hid (fun W hT =>
    kept (fun W hT => by
      have := P.bytesP [115] 40 W (by decide) hT
      exact this) _ _ W hT)
  have F5 : Hid (∀ W x t, Table 1 W → Calls Tryd.prog 11 #[.string ⟨exA.toArray⟩, .string ⟨#[98]⟩, .slice none 0 0] (W.alloc (.cells #[x] t)) (fun e w' => e = .returned (.string ⟨exB.toArray⟩) ∧ Below W.heap.size W w' ∧ Arr w' W.heap.size 1 [x])) := Lib.hid (fun W x t hT =>
    kept (fun W hT => by
      have := P.none exA [98] W (by decide) (by decide) hT
      rw [ex_b] at this
      exact this) _ _ W hT)
  have hbl := bytes_length [115] 40
  have hsl : ∀ W : World, (Instr.slice 9 (.string ⟨(bytes [115] 40).toArray⟩) none (some (.int .i64 32)) none).run Tryd.prog W = .ok (.string ⟨exV.toArray⟩) W := fun W => take_to _ _ 32 (by omega) ex_bytes W
  have z1 : (⟨exA.toArray⟩ : ByteArray).size = 32 := by rw [sizeS]; rfl
  have z2 : (⟨exV.toArray⟩ : ByteArray).size = 32 := by rw [sizeS]; rfl
  have z3 : (⟨exS.toArray⟩ : ByteArray).size = 32 := by rw [sizeS]; rfl
  have z4 : (⟨(bytes [115] 40).toArray⟩ : ByteArray).size = 40 := by rw [sizeS]; exact hbl
  have z5 : (⟨(after [115] 2).toArray⟩ : ByteArray).size = 32 := by rw [sizeS]; exact nxt_length _
  have q1 := eqT exB
  have q2 := eqT exV
  have q3 := eqF ex_ab
  have q4 := eqF ex_vs
  have n1 := ex_ab
  have n2 := ex_vs
  generalize exA = A at *
  generalize exB = B at *
  generalize exV = V at *
  generalize exS = S at *
  generalize bytes [115] 40 = X at *
  generalize after [115] 2 = G at *
  have T := h
  have Z := Below.refl w.heap.size w
  clear h P hbl
  go_enter Tryd.func9, Tryd.ntmps9
  go_wp2_with (first
    | (go_at_call 11; (with_reducible refine (F1.out _ T).mono ?_); rintro e w1 ⟨rfl, hb⟩; replace T := tabj T hb; replace Z := bcj Z hb; clear hb)
    | (go_at_call 13; (with_reducible refine (F2.out _ T).mono ?_); rintro e w2 ⟨rfl, hb⟩; replace T := tabj T hb; replace Z := bcj Z hb; clear hb)
    | (go_at_call 17; (with_reducible refine (F3.out _ T).mono ?_); rintro e w3 ⟨rfl, hb⟩; replace T := tabj T hb; replace Z := bcj Z hb; clear hb)
    | (go_at_call 19; (with_reducible refine (F4.out _ T).mono ?_); rintro e w4 ⟨rfl, hb, K1⟩; replace T := tabj T hb; replace Z := bcj Z hb; clear hb)
    | (go_at_call 11; (with_reducible refine (F5.out _ _ _ T).mono ?_); rintro e w5 ⟨rfl, hb, K2⟩; replace T := tabj T hb; replace Z := bcj Z hb; replace K1 := K1.below hb (K1.size (by omega)); clear hb; have c1 := (K1.at_ (i := 0) rfl).1; have c2 := (K2.at_ (i := 0) rfl).1))
  have hq : (!A == B && !V == S) = true := by simp [n1, n2]
  go_ret
  exact ⟨congrArg (fun b => Ending.returned (Value.bool b)) hq, Z⟩

end Kdf
end Go.Proofs.YtoenkckoomfgeaaDoor
