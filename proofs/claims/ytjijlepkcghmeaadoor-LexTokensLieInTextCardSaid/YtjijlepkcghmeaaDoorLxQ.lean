/- The reference of package lex: Same. Condition: the slices read as lists of tokens. -/
import Derived.Test.YtjijlepkcghmeaaDoorLxJ
import Derived.Test.YtjijlepkcghmeaaDoorQTail
import Derived.Deep.QuietTactic
import Derived.BigQuiet
import Derived.Deep.Draws
import Derived.StillTailTactics
namespace Go.Proofs.YtjijlepkcghmeaaDoor
open Go.RowKit
namespace Lx
open Wire (bv sv Lies)

/-- The same token; with its index if it is asked for. -/
def eqT (wh : Bool) (x y : TI) : Bool := x.kind == y.kind && x.text == y.text && x.n == y.n && (!wh || x.pos == y.pos)
def sameK (wh : Bool) : List TI → List TI → Bool
  | [], [] => true
  | x :: a, y :: b => eqT wh x y && sameK wh a b
  | [], _ :: _ => false
  | _ :: _, [] => false
theorem sameK_len (wh : Bool) : ∀ (a b : List TI), a.length ≠ b.length → sameK wh a b = false
  | [], [], h => absurd rfl h
  | x :: a, y :: b, h => by rw [sameK, sameK_len wh a b (fun e => h (by simp [e])), Bool.and_false]
  | [], _ :: _, _ => rfl
  | _ :: _, [], _ => rfl
theorem sameK_bad (wh : Bool) : ∀ (a b : List TI) (i : Nat) (x y : TI), a[i]? = some x → b[i]? = some y → eqT wh x y = false → sameK wh a b = false
  | [], _, _, _, _, h, _, _ => by cases h
  | _ :: _, [], _, _, _, _, h, _ => by cases h
  | u :: a, v :: b, 0, x, y, h1, h2, h => by cases h1; cases h2; rw [sameK, h, Bool.false_and]
  | u :: a, v :: b, i + 1, x, y, h1, h2, h => by rw [sameK, sameK_bad wh a b i x y h1 h2 h, Bool.and_false]
theorem sameK_snoc (wh : Bool) : ∀ (a b : List TI) (i : Nat) (x y : TI), a[i]? = some x → b[i]? = some y → sameK wh (a.take i) (b.take i) = true → eqT wh x y = true → sameK wh (a.take (i + 1)) (b.take (i + 1)) = true
  | [], _, _, _, _, h, _, _, _ => by cases h
  | _ :: _, [], _, _, _, _, h, _, _ => by cases h
  | u :: a, v :: b, 0, x, y, h1, h2, _, h => by cases h1; cases h2; simp [sameK, h]
  | u :: a, v :: b, i + 1, x, y, h1, h2, h3, h => by
    rw [List.take_succ_cons, List.take_succ_cons, sameK, Bool.and_eq_true] at h3 ⊢
    exact ⟨h3.1, sameK_snoc wh a b i x y h1 h2 h3.2 h⟩
/-- A bool is returned; the memory that was there is as it was. -/
def GivesB (b : Bool) (w : World) (e : Ending) (w' : World) : Prop := e = .returned (.bool b) ∧ Below w.heap.size w w'

set_option maxRecDepth 100000 in
set_option maxHeartbeats 2000000 in
theorem refSameK_any (l m : List TI) (n c k d : Nat) (A B : Option Addr) (wh : Bool) (w : World) (hl : Lies w w.heap.size 4 A n c (cellsK l)) (hm : Lies w w.heap.size 4 B k d (cellsK m)) :
    Calls Tryd.prog 12 #[.slice A n c, .slice B k d, .bool wh] w (GivesB (sameK wh l m) w) := by
  have hln := lies_len hl
  have hmn := lies_len hm
  have hmost : c ≤ 9223372036854775807 := by have := hl.most; unfold maxLen at this; omega
  have hmost2 : d ≤ 9223372036854775807 := by have := hm.most; unfold maxLen at this; omega
  have hle := hl.le
  have hle2 := hm.le
  by_cases hnk : n = k
  · subst hnk
    have HLN := Lib.hid hln
    have HMN := Lib.hid hmn
    have HL := Lib.hid (fun (j : Nat) (t : TI) (h : l[j]? = some t) => lies_tok hl h)
    have HM := Lib.hid (fun (j : Nat) (t : TI) (h : m[j]? = some t) => lies_tok hm h)
    clear hl hm hln hmn
    go_enter Tryd.func12, Tryd.ntmps12
    go_wp2
    go_loopw [7] (fun iv wr => ∃ (i : Nat), Hid (i ≤ n ∧ sameK wh (l.take i) (m.take i) = true) ∧ iv = .int .i64 (i : Int) ∧ Below w.heap.size w wr) (fun iv _ => ((n : Int) - intOf iv).toNat)
    case atStart => exact ⟨0, Lib.hid ⟨Nat.zero_le _, by simp [sameK]⟩, rfl, Below.refl _ _⟩
    case round =>
      obtain ⟨i, HI, rfl, Z⟩ := hrel
      by_cases hlt : i < n
      · obtain ⟨x, hx⟩ : ∃ x, l[i]? = some x := ⟨_, List.getElem?_eq_getElem (by rw [HLN.out]; exact hlt)⟩
        obtain ⟨y, hy⟩ : ∃ y, m[i]? = some y := ⟨_, List.getElem?_eq_getElem (by rw [HMN.out]; exact hlt)⟩
        obtain ⟨b, o, rfl, hb, hrx⟩ := HL.out i x hx
        obtain ⟨b2, o2, rfl, hb2, hry⟩ := HM.out i y hy
        have HBAD := Lib.hid (fun h => sameK_bad wh l m i x y hx hy h)
        have HGOOD := Lib.hid (fun h => sameK_snoc wh l m i x y hx hy HI.out.2 h)
        obtain ⟨k1, t1, n1, p1⟩ := x
        obtain ⟨k2, t2, n2, p2⟩ := y
        have H1 : ∀ (f : Nat) (u : Value), (TI.cells ⟨k1, t1, n1, p1⟩)[f]? = some u → ∀ W, Below wr.heap.size wr W → W.cell? ⟨b, o + i * 4 + f, none⟩ = some u := fun f u hu W h => by
          rw [Nat.add_assoc, (h.mono Z.size).cell (p := ⟨b, o + (i * 4 + f), none⟩) hb, Z.cell (p := ⟨b, o + (i * 4 + f), none⟩) hb]
          exact hrx f u hu
        have H2 : ∀ (f : Nat) (u : Value), (TI.cells ⟨k2, t2, n2, p2⟩)[f]? = some u → ∀ W, Below wr.heap.size wr W → W.cell? ⟨b2, o2 + i * 4 + f, none⟩ = some u := fun f u hu W h => by
          rw [Nat.add_assoc, (h.mono Z.size).cell (p := ⟨b2, o2 + (i * 4 + f), none⟩) hb2, Z.cell (p := ⟨b2, o2 + (i * 4 + f), none⟩) hb2]
          exact hry f u hu
        have C10 : Hid (∀ W, Below wr.heap.size wr W → W.cell? ⟨b, o + i * 4, none⟩ = some (.int .i64 k1)) := Lib.hid (fun W h => H1 0 _ rfl W h)
        have C11 : Hid (∀ W, Below wr.heap.size wr W → W.cell? ⟨b, o + i * 4 + 1, none⟩ = some (.string ⟨t1.toArray⟩)) := Lib.hid (fun W h => H1 1 _ rfl W h)
        have C12 : Hid (∀ W, Below wr.heap.size wr W → W.cell? ⟨b, o + i * 4 + 2, none⟩ = some (.int .i64 n1)) := Lib.hid (fun W h => H1 2 _ rfl W h)
        have C13 : Hid (∀ W, Below wr.heap.size wr W → W.cell? ⟨b, o + i * 4 + 3, none⟩ = some (.int .i64 p1)) := Lib.hid (fun W h => H1 3 _ rfl W h)
        have C20 : Hid (∀ W, Below wr.heap.size wr W → W.cell? ⟨b2, o2 + i * 4, none⟩ = some (.int .i64 k2)) := Lib.hid (fun W h => H2 0 _ rfl W h)
        have C21 : Hid (∀ W, Below wr.heap.size wr W → W.cell? ⟨b2, o2 + i * 4 + 1, none⟩ = some (.string ⟨t2.toArray⟩)) := Lib.hid (fun W h => H2 1 _ rfl W h)
        have C22 : Hid (∀ W, Below wr.heap.size wr W → W.cell? ⟨b2, o2 + i * 4 + 2, none⟩ = some (.int .i64 n2)) := Lib.hid (fun W h => H2 2 _ rfl W h)
        have C23 : Hid (∀ W, Below wr.heap.size wr W → W.cell? ⟨b2, o2 + i * 4 + 3, none⟩ = some (.int .i64 p2)) := Lib.hid (fun W h => H2 3 _ rfl W h)
        have HIL := Lib.hid hlt
        have z0 : (0 : Int) ≤ (i : Int) := by omega
        have z1 : (i : Int) < (n : Int) := by omega
        clear H1 H2 hrx hry hb hb2 hx hy HL HM
        by_cases h1 : k1 = k2
        · subst h1
          by_cases h2 : t1 = t2
          · subst h2
            by_cases h3 : n1 = n2
            · subst h3
              cases wh with
              | false =>
                have HR := Lib.hid (HGOOD.out (by simp [eqT]))
                clear hlt
                go_wp2
                refine QTail.whole (fun W => Below wr.heap.size wr W) (by kernel_rfl) (by kernel_rfl) (Below.refl _ _).drew ?_
                (refine wpQuiet_step (fun K hK => ?_); go_simp; (first | refine hK _ ?_ | refine ⟨_, fun _ _ => rfl, hK _ ?_⟩); clear hK K)
                (refine wpQuiet_step (fun K hK => ?_); go_simp; (first | refine hK _ ?_ | refine ⟨_, fun _ _ => rfl, hK _ ?_⟩); clear hK K)
                (refine wpQuiet_step (fun K hK => ?_); go_simp; refine ⟨.pointer (some ⟨b, o + i * 4, none⟩), fun W hW => ?_, hK _ ?_⟩; (first | (rw [if_pos (by omega)]; exact ⟨rfl, rfl⟩) | (rw [if_pos (by omega)]; rfl) | exact ⟨rfl, rfl⟩ | rfl); clear hK K)
                (refine wpQuiet_step (fun K hK => ?_); go_simp; (first | refine hK _ ?_ | refine ⟨_, fun _ _ => rfl, hK _ ?_⟩); clear hK K)
                (refine wpQuiet_step (fun K hK => ?_); go_simp; refine ⟨(.int .i64 k1), fun W hW => ?_, hK _ ?_⟩; (first | (rw [C10.out W hW]; exact ⟨rfl, rfl⟩) | (rw [C10.out W hW]; rfl)); clear hK K)
                (refine wpQuiet_step (fun K hK => ?_); go_simp; (first | refine hK _ ?_ | refine ⟨_, fun _ _ => rfl, hK _ ?_⟩); clear hK K)
                (refine wpQuiet_step (fun K hK => ?_); go_simp; (first | refine hK _ ?_ | refine ⟨_, fun _ _ => rfl, hK _ ?_⟩); clear hK K)
                (refine wpQuiet_step (fun K hK => ?_); go_simp; refine ⟨.pointer (some ⟨b2, o2 + i * 4, none⟩), fun W hW => ?_, hK _ ?_⟩; (first | (rw [if_pos (by omega)]; exact ⟨rfl, rfl⟩) | (rw [if_pos (by omega)]; rfl) | exact ⟨rfl, rfl⟩ | rfl); clear hK K)
                (refine wpQuiet_step (fun K hK => ?_); go_simp; (first | refine hK _ ?_ | refine ⟨_, fun _ _ => rfl, hK _ ?_⟩); clear hK K)
                (refine wpQuiet_step (fun K hK => ?_); go_simp; refine ⟨(.int .i64 k1), fun W hW => ?_, hK _ ?_⟩; (first | (rw [C20.out W hW]; exact ⟨rfl, rfl⟩) | (rw [C20.out W hW]; rfl)); clear hK K)
                (refine wpQuiet_step (fun K hK => ?_); go_simp; (first | refine hK _ ?_ | refine ⟨_, fun _ _ => rfl, hK _ ?_⟩); clear hK K)
                (refine wpQuiet_step (fun K hK => ?_); go_simp; (first | refine hK _ ?_ | refine ⟨_, fun _ _ => rfl, hK _ ?_⟩); clear hK K)
                (refine wpQuiet_step (fun K hK => ?_); go_simp; (first | refine hK _ ?_ | refine ⟨_, fun _ _ => rfl, hK _ ?_⟩); clear hK K)
                (refine wpQuiet_step (fun K hK => ?_); go_simp; (first | refine hK _ ?_ | refine ⟨_, fun _ _ => rfl, hK _ ?_⟩); clear hK K)
                (refine wpQuiet_step (fun K hK => ?_); go_simp; refine ⟨.pointer (some ⟨b, o + i * 4, none⟩), fun W hW => ?_, hK _ ?_⟩; (first | (rw [if_pos (by omega)]; exact ⟨rfl, rfl⟩) | (rw [if_pos (by omega)]; rfl) | exact ⟨rfl, rfl⟩ | rfl); clear hK K)
                (refine wpQuiet_step (fun K hK => ?_); go_simp; (first | refine hK _ ?_ | refine ⟨_, fun _ _ => rfl, hK _ ?_⟩); clear hK K)
                (refine wpQuiet_step (fun K hK => ?_); go_simp; refine ⟨(.string ⟨t1.toArray⟩), fun W hW => ?_, hK _ ?_⟩; (first | (rw [C11.out W hW]; exact ⟨rfl, rfl⟩) | (rw [C11.out W hW]; rfl)); clear hK K)
                (refine wpQuiet_step (fun K hK => ?_); go_simp; (first | refine hK _ ?_ | refine ⟨_, fun _ _ => rfl, hK _ ?_⟩); clear hK K)
                (refine wpQuiet_step (fun K hK => ?_); go_simp; (first | refine hK _ ?_ | refine ⟨_, fun _ _ => rfl, hK _ ?_⟩); clear hK K)
                (refine wpQuiet_step (fun K hK => ?_); go_simp; refine ⟨.pointer (some ⟨b2, o2 + i * 4, none⟩), fun W hW => ?_, hK _ ?_⟩; (first | (rw [if_pos (by omega)]; exact ⟨rfl, rfl⟩) | (rw [if_pos (by omega)]; rfl) | exact ⟨rfl, rfl⟩ | rfl); clear hK K)
                (refine wpQuiet_step (fun K hK => ?_); go_simp; (first | refine hK _ ?_ | refine ⟨_, fun _ _ => rfl, hK _ ?_⟩); clear hK K)
                (refine wpQuiet_step (fun K hK => ?_); go_simp; refine ⟨(.string ⟨t1.toArray⟩), fun W hW => ?_, hK _ ?_⟩; (first | (rw [C21.out W hW]; exact ⟨rfl, rfl⟩) | (rw [C21.out W hW]; rfl)); clear hK K)
                (refine wpQuiet_step (fun K hK => ?_); go_simp; (first | refine hK _ ?_ | refine ⟨_, fun _ _ => rfl, hK _ ?_⟩); clear hK K)
                (refine wpQuiet_step (fun K hK => ?_); go_simp; (first | refine hK _ ?_ | refine ⟨_, fun _ _ => rfl, hK _ ?_⟩); clear hK K)
                (refine wpQuiet_step (fun K hK => ?_); go_simp; (first | refine hK _ ?_ | refine ⟨_, fun _ _ => rfl, hK _ ?_⟩); clear hK K)
                (refine wpQuiet_step (fun K hK => ?_); go_simp; (first | refine hK _ ?_ | refine ⟨_, fun _ _ => rfl, hK _ ?_⟩); clear hK K)
                (refine wpQuiet_step (fun K hK => ?_); go_simp; (first | refine hK _ ?_ | refine ⟨_, fun _ _ => rfl, hK _ ?_⟩); clear hK K)
                (refine wpQuiet_step (fun K hK => ?_); go_simp; refine ⟨.pointer (some ⟨b, o + i * 4, none⟩), fun W hW => ?_, hK _ ?_⟩; (first | (rw [if_pos (by omega)]; exact ⟨rfl, rfl⟩) | (rw [if_pos (by omega)]; rfl) | exact ⟨rfl, rfl⟩ | rfl); clear hK K)
                (refine wpQuiet_step (fun K hK => ?_); go_simp; (first | refine hK _ ?_ | refine ⟨_, fun _ _ => rfl, hK _ ?_⟩); clear hK K)
                (refine wpQuiet_step (fun K hK => ?_); go_simp; refine ⟨(.int .i64 n1), fun W hW => ?_, hK _ ?_⟩; (first | (rw [C12.out W hW]; exact ⟨rfl, rfl⟩) | (rw [C12.out W hW]; rfl)); clear hK K)
                (refine wpQuiet_step (fun K hK => ?_); go_simp; (first | refine hK _ ?_ | refine ⟨_, fun _ _ => rfl, hK _ ?_⟩); clear hK K)
                (refine wpQuiet_step (fun K hK => ?_); go_simp; (first | refine hK _ ?_ | refine ⟨_, fun _ _ => rfl, hK _ ?_⟩); clear hK K)
                (refine wpQuiet_step (fun K hK => ?_); go_simp; refine ⟨.pointer (some ⟨b2, o2 + i * 4, none⟩), fun W hW => ?_, hK _ ?_⟩; (first | (rw [if_pos (by omega)]; exact ⟨rfl, rfl⟩) | (rw [if_pos (by omega)]; rfl) | exact ⟨rfl, rfl⟩ | rfl); clear hK K)
                (refine wpQuiet_step (fun K hK => ?_); go_simp; (first | refine hK _ ?_ | refine ⟨_, fun _ _ => rfl, hK _ ?_⟩); clear hK K)
                (refine wpQuiet_step (fun K hK => ?_); go_simp; refine ⟨(.int .i64 n1), fun W hW => ?_, hK _ ?_⟩; (first | (rw [C22.out W hW]; exact ⟨rfl, rfl⟩) | (rw [C22.out W hW]; rfl)); clear hK K)
                (refine wpQuiet_step (fun K hK => ?_); go_simp; (first | refine hK _ ?_ | refine ⟨_, fun _ _ => rfl, hK _ ?_⟩); clear hK K)
                (refine wpQuiet_step (fun K hK => ?_); go_simp; (first | refine hK _ ?_ | refine ⟨_, fun _ _ => rfl, hK _ ?_⟩); clear hK K)
                (refine wpQuiet_step (fun K hK => ?_); go_simp; (first | refine hK _ ?_ | refine ⟨_, fun _ _ => rfl, hK _ ?_⟩); clear hK K)
                (refine wpQuiet_step (fun K hK => ?_); go_simp; (first | refine hK _ ?_ | refine ⟨_, fun _ _ => rfl, hK _ ?_⟩); clear hK K)
                (refine wpQuiet_step (fun K hK => ?_); go_simp; (first | refine hK _ ?_ | refine ⟨_, fun _ _ => rfl, hK _ ?_⟩); clear hK K)
                (with_reducible refine wpQuiet_step (fun K hK => ?_)); go_simp; (first | (with_reducible refine hK _ ?_) | (rw [if_neg (by intro h; cases h)]; refine hK _ ?_)); clear hK K
                (with_reducible refine wpQuiet_step (fun K hK => ?_)); go_simp; (first | (with_reducible refine hK _ ?_) | (rw [if_neg (by intro h; cases h)]; refine hK _ ?_)); clear hK K
                (with_reducible refine wpQuiet_step (fun K hK => ?_)); go_simp; (first | (with_reducible refine hK _ ?_) | (rw [if_neg (by intro h; cases h)]; refine hK _ ?_)); clear hK K
                (with_reducible refine wpQuiet_step (fun K hK => ?_)); go_simp; (first | (with_reducible refine hK _ ?_) | (rw [if_neg (by intro h; cases h)]; refine hK _ ?_)); clear hK K
                (with_reducible refine wpQuiet_step (fun K hK => ?_)); go_simp; (first | (with_reducible refine hK _ ?_) | (rw [if_neg (by intro h; cases h)]; refine hK _ ?_)); clear hK K
                (with_reducible refine wpQuiet_step (fun K hK => ?_)); go_simp; (first | (with_reducible refine hK _ ?_) | (rw [if_neg (by intro h; cases h)]; refine hK _ ?_)); clear hK K
                (with_reducible refine wpQuiet_step (fun K hK => ?_)); go_simp; (first | (with_reducible refine hK _ ?_) | (rw [if_neg (by intro h; cases h)]; refine hK _ ?_)); clear hK K
                (with_reducible refine wpQuiet_step (fun K hK => ?_)); go_simp; (first | (with_reducible refine hK _ ?_) | (rw [if_neg (by intro h; cases h)]; refine hK _ ?_)); clear hK K
                (with_reducible refine wpQuiet_step (fun K hK => ?_)); go_simp; (first | (with_reducible refine hK _ ?_) | (rw [if_neg (by intro h; cases h)]; refine hK _ ?_)); clear hK K
                (with_reducible refine wpQuiet_step (fun K hK => ?_)); go_simp; (first | (with_reducible refine hK _ ?_) | (rw [if_neg (by intro h; cases h)]; refine hK _ ?_)); clear hK K
                (with_reducible refine wpQuiet_step (fun K hK => ?_)); go_simp; (first | (with_reducible refine hK _ ?_) | (rw [if_neg (by intro h; cases h)]; refine hK _ ?_)); clear hK K
                (refine wpQuiet_step (fun K hK => ?_); go_simp; (first | refine hK _ ?_ | refine ⟨_, fun _ _ => rfl, hK _ ?_⟩); clear hK K)
                (refine wpQuiet_step (fun K hK => ?_); go_simp; (first | refine hK _ ?_ | refine ⟨_, fun _ _ => rfl, hK _ ?_⟩); clear hK K)
                refine wpQuiet_nil ?_
                intro w2 Z2
                have Z3 := Wire.bc Z Z2
                clear Z Z2
                go_wp2
                go_roundw
                case rel => exact ⟨i + 1, Lib.hid ⟨HIL.out, HR.out⟩, by go_num, Z3⟩
                case measure => have := HIL.out; simp [intOf]; omega
              | true =>
                by_cases h4 : p1 = p2
                · subst h4
                  have HR := Lib.hid (HGOOD.out (by simp [eqT]))
                  clear hlt
                  go_wp2
                  refine QTail.whole (fun W => Below wr.heap.size wr W) (by kernel_rfl) (by kernel_rfl) (Below.refl _ _).drew ?_
                  (refine wpQuiet_step (fun K hK => ?_); go_simp; (first | refine hK _ ?_ | refine ⟨_, fun _ _ => rfl, hK _ ?_⟩); clear hK K)
                  (refine wpQuiet_step (fun K hK => ?_); go_simp; (first | refine hK _ ?_ | refine ⟨_, fun _ _ => rfl, hK _ ?_⟩); clear hK K)
                  (refine wpQuiet_step (fun K hK => ?_); go_simp; refine ⟨.pointer (some ⟨b, o + i * 4, none⟩), fun W hW => ?_, hK _ ?_⟩; (first | (rw [if_pos (by omega)]; exact ⟨rfl, rfl⟩) | (rw [if_pos (by omega)]; rfl) | exact ⟨rfl, rfl⟩ | rfl); clear hK K)
                  (refine wpQuiet_step (fun K hK => ?_); go_simp; (first | refine hK _ ?_ | refine ⟨_, fun _ _ => rfl, hK _ ?_⟩); clear hK K)
                  (refine wpQuiet_step (fun K hK => ?_); go_simp; refine ⟨(.int .i64 k1), fun W hW => ?_, hK _ ?_⟩; (first | (rw [C10.out W hW]; exact ⟨rfl, rfl⟩) | (rw [C10.out W hW]; rfl)); clear hK K)
                  (refine wpQuiet_step (fun K hK => ?_); go_simp; (first | refine hK _ ?_ | refine ⟨_, fun _ _ => rfl, hK _ ?_⟩); clear hK K)
                  (refine wpQuiet_step (fun K hK => ?_); go_simp; (first | refine hK _ ?_ | refine ⟨_, fun _ _ => rfl, hK _ ?_⟩); clear hK K)
                  (refine wpQuiet_step (fun K hK => ?_); go_simp; refine ⟨.pointer (some ⟨b2, o2 + i * 4, none⟩), fun W hW => ?_, hK _ ?_⟩; (first | (rw [if_pos (by omega)]; exact ⟨rfl, rfl⟩) | (rw [if_pos (by omega)]; rfl) | exact ⟨rfl, rfl⟩ | rfl); clear hK K)
                  (refine wpQuiet_step (fun K hK => ?_); go_simp; (first | refine hK _ ?_ | refine ⟨_, fun _ _ => rfl, hK _ ?_⟩); clear hK K)
                  (refine wpQuiet_step (fun K hK => ?_); go_simp; refine ⟨(.int .i64 k1), fun W hW => ?_, hK _ ?_⟩; (first | (rw [C20.out W hW]; exact ⟨rfl, rfl⟩) | (rw [C20.out W hW]; rfl)); clear hK K)
                  (refine wpQuiet_step (fun K hK => ?_); go_simp; (first | refine hK _ ?_ | refine ⟨_, fun _ _ => rfl, hK _ ?_⟩); clear hK K)
                  (refine wpQuiet_step (fun K hK => ?_); go_simp; (first | refine hK _ ?_ | refine ⟨_, fun _ _ => rfl, hK _ ?_⟩); clear hK K)
                  (refine wpQuiet_step (fun K hK => ?_); go_simp; (first | refine hK _ ?_ | refine ⟨_, fun _ _ => rfl, hK _ ?_⟩); clear hK K)
                  (refine wpQuiet_step (fun K hK => ?_); go_simp; (first | refine hK _ ?_ | refine ⟨_, fun _ _ => rfl, hK _ ?_⟩); clear hK K)
                  (refine wpQuiet_step (fun K hK => ?_); go_simp; refine ⟨.pointer (some ⟨b, o + i * 4, none⟩), fun W hW => ?_, hK _ ?_⟩; (first | (rw [if_pos (by omega)]; exact ⟨rfl, rfl⟩) | (rw [if_pos (by omega)]; rfl) | exact ⟨rfl, rfl⟩ | rfl); clear hK K)
                  (refine wpQuiet_step (fun K hK => ?_); go_simp; (first | refine hK _ ?_ | refine ⟨_, fun _ _ => rfl, hK _ ?_⟩); clear hK K)
                  (refine wpQuiet_step (fun K hK => ?_); go_simp; refine ⟨(.string ⟨t1.toArray⟩), fun W hW => ?_, hK _ ?_⟩; (first | (rw [C11.out W hW]; exact ⟨rfl, rfl⟩) | (rw [C11.out W hW]; rfl)); clear hK K)
                  (refine wpQuiet_step (fun K hK => ?_); go_simp; (first | refine hK _ ?_ | refine ⟨_, fun _ _ => rfl, hK _ ?_⟩); clear hK K)
                  (refine wpQuiet_step (fun K hK => ?_); go_simp; (first | refine hK _ ?_ | refine ⟨_, fun _ _ => rfl, hK _ ?_⟩); clear hK K)
                  (refine wpQuiet_step (fun K hK => ?_); go_simp; refine ⟨.pointer (some ⟨b2, o2 + i * 4, none⟩), fun W hW => ?_, hK _ ?_⟩; (first | (rw [if_pos (by omega)]; exact ⟨rfl, rfl⟩) | (rw [if_pos (by omega)]; rfl) | exact ⟨rfl, rfl⟩ | rfl); clear hK K)
                  (refine wpQuiet_step (fun K hK => ?_); go_simp; (first | refine hK _ ?_ | refine ⟨_, fun _ _ => rfl, hK _ ?_⟩); clear hK K)
                  (refine wpQuiet_step (fun K hK => ?_); go_simp; refine ⟨(.string ⟨t1.toArray⟩), fun W hW => ?_, hK _ ?_⟩; (first | (rw [C21.out W hW]; exact ⟨rfl, rfl⟩) | (rw [C21.out W hW]; rfl)); clear hK K)
                  (refine wpQuiet_step (fun K hK => ?_); go_simp; (first | refine hK _ ?_ | refine ⟨_, fun _ _ => rfl, hK _ ?_⟩); clear hK K)
                  (refine wpQuiet_step (fun K hK => ?_); go_simp; (first | refine hK _ ?_ | refine ⟨_, fun _ _ => rfl, hK _ ?_⟩); clear hK K)
                  (refine wpQuiet_step (fun K hK => ?_); go_simp; (first | refine hK _ ?_ | refine ⟨_, fun _ _ => rfl, hK _ ?_⟩); clear hK K)
                  (refine wpQuiet_step (fun K hK => ?_); go_simp; (first | refine hK _ ?_ | refine ⟨_, fun _ _ => rfl, hK _ ?_⟩); clear hK K)
                  (refine wpQuiet_step (fun K hK => ?_); go_simp; (first | refine hK _ ?_ | refine ⟨_, fun _ _ => rfl, hK _ ?_⟩); clear hK K)
                  (refine wpQuiet_step (fun K hK => ?_); go_simp; refine ⟨.pointer (some ⟨b, o + i * 4, none⟩), fun W hW => ?_, hK _ ?_⟩; (first | (rw [if_pos (by omega)]; exact ⟨rfl, rfl⟩) | (rw [if_pos (by omega)]; rfl) | exact ⟨rfl, rfl⟩ | rfl); clear hK K)
                  (refine wpQuiet_step (fun K hK => ?_); go_simp; (first | refine hK _ ?_ | refine ⟨_, fun _ _ => rfl, hK _ ?_⟩); clear hK K)
                  (refine wpQuiet_step (fun K hK => ?_); go_simp; refine ⟨(.int .i64 n1), fun W hW => ?_, hK _ ?_⟩; (first | (rw [C12.out W hW]; exact ⟨rfl, rfl⟩) | (rw [C12.out W hW]; rfl)); clear hK K)
                  (refine wpQuiet_step (fun K hK => ?_); go_simp; (first | refine hK _ ?_ | refine ⟨_, fun _ _ => rfl, hK _ ?_⟩); clear hK K)
                  (refine wpQuiet_step (fun K hK => ?_); go_simp; (first | refine hK _ ?_ | refine ⟨_, fun _ _ => rfl, hK _ ?_⟩); clear hK K)
                  (refine wpQuiet_step (fun K hK => ?_); go_simp; refine ⟨.pointer (some ⟨b2, o2 + i * 4, none⟩), fun W hW => ?_, hK _ ?_⟩; (first | (rw [if_pos (by omega)]; exact ⟨rfl, rfl⟩) | (rw [if_pos (by omega)]; rfl) | exact ⟨rfl, rfl⟩ | rfl); clear hK K)
                  (refine wpQuiet_step (fun K hK => ?_); go_simp; (first | refine hK _ ?_ | refine ⟨_, fun _ _ => rfl, hK _ ?_⟩); clear hK K)
                  (refine wpQuiet_step (fun K hK => ?_); go_simp; refine ⟨(.int .i64 n1), fun W hW => ?_, hK _ ?_⟩; (first | (rw [C22.out W hW]; exact ⟨rfl, rfl⟩) | (rw [C22.out W hW]; rfl)); clear hK K)
                  (refine wpQuiet_step (fun K hK => ?_); go_simp; (first | refine hK _ ?_ | refine ⟨_, fun _ _ => rfl, hK _ ?_⟩); clear hK K)
                  (refine wpQuiet_step (fun K hK => ?_); go_simp; (first | refine hK _ ?_ | refine ⟨_, fun _ _ => rfl, hK _ ?_⟩); clear hK K)
                  (refine wpQuiet_step (fun K hK => ?_); go_simp; (first | refine hK _ ?_ | refine ⟨_, fun _ _ => rfl, hK _ ?_⟩); clear hK K)
                  (refine wpQuiet_step (fun K hK => ?_); go_simp; (first | refine hK _ ?_ | refine ⟨_, fun _ _ => rfl, hK _ ?_⟩); clear hK K)
                  (refine wpQuiet_step (fun K hK => ?_); go_simp; (first | refine hK _ ?_ | refine ⟨_, fun _ _ => rfl, hK _ ?_⟩); clear hK K)
                  (refine wpQuiet_step (fun K hK => ?_); go_simp; (first | refine hK _ ?_ | refine ⟨_, fun _ _ => rfl, hK _ ?_⟩); clear hK K)
                  (refine wpQuiet_step (fun K hK => ?_); go_simp; (first | refine hK _ ?_ | refine ⟨_, fun _ _ => rfl, hK _ ?_⟩); clear hK K)
                  (refine wpQuiet_step (fun K hK => ?_); go_simp; refine ⟨.pointer (some ⟨b, o + i * 4, none⟩), fun W hW => ?_, hK _ ?_⟩; (first | (rw [if_pos (by omega)]; exact ⟨rfl, rfl⟩) | (rw [if_pos (by omega)]; rfl) | exact ⟨rfl, rfl⟩ | rfl); clear hK K)
                  (refine wpQuiet_step (fun K hK => ?_); go_simp; (first | refine hK _ ?_ | refine ⟨_, fun _ _ => rfl, hK _ ?_⟩); clear hK K)
                  (refine wpQuiet_step (fun K hK => ?_); go_simp; refine ⟨(.int .i64 p1), fun W hW => ?_, hK _ ?_⟩; (first | (rw [C13.out W hW]; exact ⟨rfl, rfl⟩) | (rw [C13.out W hW]; rfl)); clear hK K)
                  (refine wpQuiet_step (fun K hK => ?_); go_simp; (first | refine hK _ ?_ | refine ⟨_, fun _ _ => rfl, hK _ ?_⟩); clear hK K)
                  (refine wpQuiet_step (fun K hK => ?_); go_simp; (first | refine hK _ ?_ | refine ⟨_, fun _ _ => rfl, hK _ ?_⟩); clear hK K)
                  (refine wpQuiet_step (fun K hK => ?_); go_simp; refine ⟨.pointer (some ⟨b2, o2 + i * 4, none⟩), fun W hW => ?_, hK _ ?_⟩; (first | (rw [if_pos (by omega)]; exact ⟨rfl, rfl⟩) | (rw [if_pos (by omega)]; rfl) | exact ⟨rfl, rfl⟩ | rfl); clear hK K)
                  (refine wpQuiet_step (fun K hK => ?_); go_simp; (first | refine hK _ ?_ | refine ⟨_, fun _ _ => rfl, hK _ ?_⟩); clear hK K)
                  (refine wpQuiet_step (fun K hK => ?_); go_simp; refine ⟨(.int .i64 p1), fun W hW => ?_, hK _ ?_⟩; (first | (rw [C23.out W hW]; exact ⟨rfl, rfl⟩) | (rw [C23.out W hW]; rfl)); clear hK K)
                  (refine wpQuiet_step (fun K hK => ?_); go_simp; (first | refine hK _ ?_ | refine ⟨_, fun _ _ => rfl, hK _ ?_⟩); clear hK K)
                  (refine wpQuiet_step (fun K hK => ?_); go_simp; (first | refine hK _ ?_ | refine ⟨_, fun _ _ => rfl, hK _ ?_⟩); clear hK K)
                  (refine wpQuiet_step (fun K hK => ?_); go_simp; (first | refine hK _ ?_ | refine ⟨_, fun _ _ => rfl, hK _ ?_⟩); clear hK K)
                  refine wpQuiet_nil ?_
                  intro w2 Z2
                  have Z3 := Wire.bc Z Z2
                  clear Z Z2
                  go_wp2
                  go_roundw
                  case rel => exact ⟨i + 1, Lib.hid ⟨HIL.out, HR.out⟩, by go_num, Z3⟩
                  case measure => have := HIL.out; simp [intOf]; omega
                · have e4 : (p1 == p2) = false := by simpa using h4
                  have HR := Lib.hid (HBAD.out (by simp [eqT, e4]))
                  clear hlt
                  go_wp2
                  refine QTail.whole (fun W => Below wr.heap.size wr W) (by kernel_rfl) (by kernel_rfl) (Below.refl _ _).drew ?_
                  (refine wpQuiet_step (fun K hK => ?_); go_simp; (first | refine hK _ ?_ | refine ⟨_, fun _ _ => rfl, hK _ ?_⟩); clear hK K)
                  (refine wpQuiet_step (fun K hK => ?_); go_simp; (first | refine hK _ ?_ | refine ⟨_, fun _ _ => rfl, hK _ ?_⟩); clear hK K)
                  (refine wpQuiet_step (fun K hK => ?_); go_simp; refine ⟨.pointer (some ⟨b, o + i * 4, none⟩), fun W hW => ?_, hK _ ?_⟩; (first | (rw [if_pos (by omega)]; exact ⟨rfl, rfl⟩) | (rw [if_pos (by omega)]; rfl) | exact ⟨rfl, rfl⟩ | rfl); clear hK K)
                  (refine wpQuiet_step (fun K hK => ?_); go_simp; (first | refine hK _ ?_ | refine ⟨_, fun _ _ => rfl, hK _ ?_⟩); clear hK K)
                  (refine wpQuiet_step (fun K hK => ?_); go_simp; refine ⟨(.int .i64 k1), fun W hW => ?_, hK _ ?_⟩; (first | (rw [C10.out W hW]; exact ⟨rfl, rfl⟩) | (rw [C10.out W hW]; rfl)); clear hK K)
                  (refine wpQuiet_step (fun K hK => ?_); go_simp; (first | refine hK _ ?_ | refine ⟨_, fun _ _ => rfl, hK _ ?_⟩); clear hK K)
                  (refine wpQuiet_step (fun K hK => ?_); go_simp; (first | refine hK _ ?_ | refine ⟨_, fun _ _ => rfl, hK _ ?_⟩); clear hK K)
                  (refine wpQuiet_step (fun K hK => ?_); go_simp; refine ⟨.pointer (some ⟨b2, o2 + i * 4, none⟩), fun W hW => ?_, hK _ ?_⟩; (first | (rw [if_pos (by omega)]; exact ⟨rfl, rfl⟩) | (rw [if_pos (by omega)]; rfl) | exact ⟨rfl, rfl⟩ | rfl); clear hK K)
                  (refine wpQuiet_step (fun K hK => ?_); go_simp; (first | refine hK _ ?_ | refine ⟨_, fun _ _ => rfl, hK _ ?_⟩); clear hK K)
                  (refine wpQuiet_step (fun K hK => ?_); go_simp; refine ⟨(.int .i64 k1), fun W hW => ?_, hK _ ?_⟩; (first | (rw [C20.out W hW]; exact ⟨rfl, rfl⟩) | (rw [C20.out W hW]; rfl)); clear hK K)
                  (refine wpQuiet_step (fun K hK => ?_); go_simp; (first | refine hK _ ?_ | refine ⟨_, fun _ _ => rfl, hK _ ?_⟩); clear hK K)
                  (refine wpQuiet_step (fun K hK => ?_); go_simp; (first | refine hK _ ?_ | refine ⟨_, fun _ _ => rfl, hK _ ?_⟩); clear hK K)
                  (refine wpQuiet_step (fun K hK => ?_); go_simp; (first | refine hK _ ?_ | refine ⟨_, fun _ _ => rfl, hK _ ?_⟩); clear hK K)
                  (refine wpQuiet_step (fun K hK => ?_); go_simp; (first | refine hK _ ?_ | refine ⟨_, fun _ _ => rfl, hK _ ?_⟩); clear hK K)
                  (refine wpQuiet_step (fun K hK => ?_); go_simp; refine ⟨.pointer (some ⟨b, o + i * 4, none⟩), fun W hW => ?_, hK _ ?_⟩; (first | (rw [if_pos (by omega)]; exact ⟨rfl, rfl⟩) | (rw [if_pos (by omega)]; rfl) | exact ⟨rfl, rfl⟩ | rfl); clear hK K)
                  (refine wpQuiet_step (fun K hK => ?_); go_simp; (first | refine hK _ ?_ | refine ⟨_, fun _ _ => rfl, hK _ ?_⟩); clear hK K)
                  (refine wpQuiet_step (fun K hK => ?_); go_simp; refine ⟨(.string ⟨t1.toArray⟩), fun W hW => ?_, hK _ ?_⟩; (first | (rw [C11.out W hW]; exact ⟨rfl, rfl⟩) | (rw [C11.out W hW]; rfl)); clear hK K)
                  (refine wpQuiet_step (fun K hK => ?_); go_simp; (first | refine hK _ ?_ | refine ⟨_, fun _ _ => rfl, hK _ ?_⟩); clear hK K)
                  (refine wpQuiet_step (fun K hK => ?_); go_simp; (first | refine hK _ ?_ | refine ⟨_, fun _ _ => rfl, hK _ ?_⟩); clear hK K)
                  (refine wpQuiet_step (fun K hK => ?_); go_simp; refine ⟨.pointer (some ⟨b2, o2 + i * 4, none⟩), fun W hW => ?_, hK _ ?_⟩; (first | (rw [if_pos (by omega)]; exact ⟨rfl, rfl⟩) | (rw [if_pos (by omega)]; rfl) | exact ⟨rfl, rfl⟩ | rfl); clear hK K)
                  (refine wpQuiet_step (fun K hK => ?_); go_simp; (first | refine hK _ ?_ | refine ⟨_, fun _ _ => rfl, hK _ ?_⟩); clear hK K)
                  (refine wpQuiet_step (fun K hK => ?_); go_simp; refine ⟨(.string ⟨t1.toArray⟩), fun W hW => ?_, hK _ ?_⟩; (first | (rw [C21.out W hW]; exact ⟨rfl, rfl⟩) | (rw [C21.out W hW]; rfl)); clear hK K)
                  (refine wpQuiet_step (fun K hK => ?_); go_simp; (first | refine hK _ ?_ | refine ⟨_, fun _ _ => rfl, hK _ ?_⟩); clear hK K)
                  (refine wpQuiet_step (fun K hK => ?_); go_simp; (first | refine hK _ ?_ | refine ⟨_, fun _ _ => rfl, hK _ ?_⟩); clear hK K)
                  (refine wpQuiet_step (fun K hK => ?_); go_simp; (first | refine hK _ ?_ | refine ⟨_, fun _ _ => rfl, hK _ ?_⟩); clear hK K)
                  (refine wpQuiet_step (fun K hK => ?_); go_simp; (first | refine hK _ ?_ | refine ⟨_, fun _ _ => rfl, hK _ ?_⟩); clear hK K)
                  (refine wpQuiet_step (fun K hK => ?_); go_simp; (first | refine hK _ ?_ | refine ⟨_, fun _ _ => rfl, hK _ ?_⟩); clear hK K)
                  (refine wpQuiet_step (fun K hK => ?_); go_simp; refine ⟨.pointer (some ⟨b, o + i * 4, none⟩), fun W hW => ?_, hK _ ?_⟩; (first | (rw [if_pos (by omega)]; exact ⟨rfl, rfl⟩) | (rw [if_pos (by omega)]; rfl) | exact ⟨rfl, rfl⟩ | rfl); clear hK K)
                  (refine wpQuiet_step (fun K hK => ?_); go_simp; (first | refine hK _ ?_ | refine ⟨_, fun _ _ => rfl, hK _ ?_⟩); clear hK K)
                  (refine wpQuiet_step (fun K hK => ?_); go_simp; refine ⟨(.int .i64 n1), fun W hW => ?_, hK _ ?_⟩; (first | (rw [C12.out W hW]; exact ⟨rfl, rfl⟩) | (rw [C12.out W hW]; rfl)); clear hK K)
                  (refine wpQuiet_step (fun K hK => ?_); go_simp; (first | refine hK _ ?_ | refine ⟨_, fun _ _ => rfl, hK _ ?_⟩); clear hK K)
                  (refine wpQuiet_step (fun K hK => ?_); go_simp; (first | refine hK _ ?_ | refine ⟨_, fun _ _ => rfl, hK _ ?_⟩); clear hK K)
                  (refine wpQuiet_step (fun K hK => ?_); go_simp; refine ⟨.pointer (some ⟨b2, o2 + i * 4, none⟩), fun W hW => ?_, hK _ ?_⟩; (first | (rw [if_pos (by omega)]; exact ⟨rfl, rfl⟩) | (rw [if_pos (by omega)]; rfl) | exact ⟨rfl, rfl⟩ | rfl); clear hK K)
                  (refine wpQuiet_step (fun K hK => ?_); go_simp; (first | refine hK _ ?_ | refine ⟨_, fun _ _ => rfl, hK _ ?_⟩); clear hK K)
                  (refine wpQuiet_step (fun K hK => ?_); go_simp; refine ⟨(.int .i64 n1), fun W hW => ?_, hK _ ?_⟩; (first | (rw [C22.out W hW]; exact ⟨rfl, rfl⟩) | (rw [C22.out W hW]; rfl)); clear hK K)
                  (refine wpQuiet_step (fun K hK => ?_); go_simp; (first | refine hK _ ?_ | refine ⟨_, fun _ _ => rfl, hK _ ?_⟩); clear hK K)
                  (refine wpQuiet_step (fun K hK => ?_); go_simp; (first | refine hK _ ?_ | refine ⟨_, fun _ _ => rfl, hK _ ?_⟩); clear hK K)
                  (refine wpQuiet_step (fun K hK => ?_); go_simp; (first | refine hK _ ?_ | refine ⟨_, fun _ _ => rfl, hK _ ?_⟩); clear hK K)
                  (refine wpQuiet_step (fun K hK => ?_); go_simp; (first | refine hK _ ?_ | refine ⟨_, fun _ _ => rfl, hK _ ?_⟩); clear hK K)
                  (refine wpQuiet_step (fun K hK => ?_); go_simp; (first | refine hK _ ?_ | refine ⟨_, fun _ _ => rfl, hK _ ?_⟩); clear hK K)
                  (refine wpQuiet_step (fun K hK => ?_); go_simp; (first | refine hK _ ?_ | refine ⟨_, fun _ _ => rfl, hK _ ?_⟩); clear hK K)
                  (refine wpQuiet_step (fun K hK => ?_); go_simp; (first | refine hK _ ?_ | refine ⟨_, fun _ _ => rfl, hK _ ?_⟩); clear hK K)
                  (refine wpQuiet_step (fun K hK => ?_); go_simp; refine ⟨.pointer (some ⟨b, o + i * 4, none⟩), fun W hW => ?_, hK _ ?_⟩; (first | (rw [if_pos (by omega)]; exact ⟨rfl, rfl⟩) | (rw [if_pos (by omega)]; rfl) | exact ⟨rfl, rfl⟩ | rfl); clear hK K)
                  (refine wpQuiet_step (fun K hK => ?_); go_simp; (first | refine hK _ ?_ | refine ⟨_, fun _ _ => rfl, hK _ ?_⟩); clear hK K)
                  (refine wpQuiet_step (fun K hK => ?_); go_simp; refine ⟨(.int .i64 p1), fun W hW => ?_, hK _ ?_⟩; (first | (rw [C13.out W hW]; exact ⟨rfl, rfl⟩) | (rw [C13.out W hW]; rfl)); clear hK K)
                  (refine wpQuiet_step (fun K hK => ?_); go_simp; (first | refine hK _ ?_ | refine ⟨_, fun _ _ => rfl, hK _ ?_⟩); clear hK K)
                  (refine wpQuiet_step (fun K hK => ?_); go_simp; (first | refine hK _ ?_ | refine ⟨_, fun _ _ => rfl, hK _ ?_⟩); clear hK K)
                  (refine wpQuiet_step (fun K hK => ?_); go_simp; refine ⟨.pointer (some ⟨b2, o2 + i * 4, none⟩), fun W hW => ?_, hK _ ?_⟩; (first | (rw [if_pos (by omega)]; exact ⟨rfl, rfl⟩) | (rw [if_pos (by omega)]; rfl) | exact ⟨rfl, rfl⟩ | rfl); clear hK K)
                  (refine wpQuiet_step (fun K hK => ?_); go_simp; (first | refine hK _ ?_ | refine ⟨_, fun _ _ => rfl, hK _ ?_⟩); clear hK K)
                  (refine wpQuiet_step (fun K hK => ?_); go_simp; refine ⟨(.int .i64 p2), fun W hW => ?_, hK _ ?_⟩; (first | (rw [C23.out W hW]; exact ⟨rfl, rfl⟩) | (rw [C23.out W hW]; rfl)); clear hK K)
                  (refine wpQuiet_step (fun K hK => ?_); go_simp; (first | refine hK _ ?_ | refine ⟨_, fun _ _ => rfl, hK _ ?_⟩); clear hK K)
                  (refine wpQuiet_step (fun K hK => ?_); go_simp; (first | refine hK _ ?_ | refine ⟨_, fun _ _ => rfl, hK _ ?_⟩); clear hK K)
                  (refine wpQuiet_step (fun K hK => ?_); go_simp; (first | refine hK _ ?_ | refine ⟨_, fun _ _ => rfl, hK _ ?_⟩); clear hK K)
                  refine wpQuiet_nil ?_
                  intro w2 Z2
                  have Z3 := Wire.bc Z Z2
                  clear Z Z2
                  go_wp2
                  go_ret
                  exact ⟨by rw [HR.out]; rfl, Z3⟩
            · have e3 : (n1 == n2) = false := by simpa using h3
              have HR := Lib.hid (HBAD.out (by simp [eqT, e3]))
              clear hlt
              go_wp2
              refine QTail.whole (fun W => Below wr.heap.size wr W) (by kernel_rfl) (by kernel_rfl) (Below.refl _ _).drew ?_
              (refine wpQuiet_step (fun K hK => ?_); go_simp; (first | refine hK _ ?_ | refine ⟨_, fun _ _ => rfl, hK _ ?_⟩); clear hK K)
              (refine wpQuiet_step (fun K hK => ?_); go_simp; (first | refine hK _ ?_ | refine ⟨_, fun _ _ => rfl, hK _ ?_⟩); clear hK K)
              (refine wpQuiet_step (fun K hK => ?_); go_simp; refine ⟨.pointer (some ⟨b, o + i * 4, none⟩), fun W hW => ?_, hK _ ?_⟩; (first | (rw [if_pos (by omega)]; exact ⟨rfl, rfl⟩) | (rw [if_pos (by omega)]; rfl) | exact ⟨rfl, rfl⟩ | rfl); clear hK K)
              (refine wpQuiet_step (fun K hK => ?_); go_simp; (first | refine hK _ ?_ | refine ⟨_, fun _ _ => rfl, hK _ ?_⟩); clear hK K)
              (refine wpQuiet_step (fun K hK => ?_); go_simp; refine ⟨(.int .i64 k1), fun W hW => ?_, hK _ ?_⟩; (first | (rw [C10.out W hW]; exact ⟨rfl, rfl⟩) | (rw [C10.out W hW]; rfl)); clear hK K)
              (refine wpQuiet_step (fun K hK => ?_); go_simp; (first | refine hK _ ?_ | refine ⟨_, fun _ _ => rfl, hK _ ?_⟩); clear hK K)
              (refine wpQuiet_step (fun K hK => ?_); go_simp; (first | refine hK _ ?_ | refine ⟨_, fun _ _ => rfl, hK _ ?_⟩); clear hK K)
              (refine wpQuiet_step (fun K hK => ?_); go_simp; refine ⟨.pointer (some ⟨b2, o2 + i * 4, none⟩), fun W hW => ?_, hK _ ?_⟩; (first | (rw [if_pos (by omega)]; exact ⟨rfl, rfl⟩) | (rw [if_pos (by omega)]; rfl) | exact ⟨rfl, rfl⟩ | rfl); clear hK K)
              (refine wpQuiet_step (fun K hK => ?_); go_simp; (first | refine hK _ ?_ | refine ⟨_, fun _ _ => rfl, hK _ ?_⟩); clear hK K)
              (refine wpQuiet_step (fun K hK => ?_); go_simp; refine ⟨(.int .i64 k1), fun W hW => ?_, hK _ ?_⟩; (first | (rw [C20.out W hW]; exact ⟨rfl, rfl⟩) | (rw [C20.out W hW]; rfl)); clear hK K)
              (refine wpQuiet_step (fun K hK => ?_); go_simp; (first | refine hK _ ?_ | refine ⟨_, fun _ _ => rfl, hK _ ?_⟩); clear hK K)
              (refine wpQuiet_step (fun K hK => ?_); go_simp; (first | refine hK _ ?_ | refine ⟨_, fun _ _ => rfl, hK _ ?_⟩); clear hK K)
              (refine wpQuiet_step (fun K hK => ?_); go_simp; (first | refine hK _ ?_ | refine ⟨_, fun _ _ => rfl, hK _ ?_⟩); clear hK K)
              (refine wpQuiet_step (fun K hK => ?_); go_simp; (first | refine hK _ ?_ | refine ⟨_, fun _ _ => rfl, hK _ ?_⟩); clear hK K)
              (refine wpQuiet_step (fun K hK => ?_); go_simp; refine ⟨.pointer (some ⟨b, o + i * 4, none⟩), fun W hW => ?_, hK _ ?_⟩; (first | (rw [if_pos (by omega)]; exact ⟨rfl, rfl⟩) | (rw [if_pos (by omega)]; rfl) | exact ⟨rfl, rfl⟩ | rfl); clear hK K)
              (refine wpQuiet_step (fun K hK => ?_); go_simp; (first | refine hK _ ?_ | refine ⟨_, fun _ _ => rfl, hK _ ?_⟩); clear hK K)
              (refine wpQuiet_step (fun K hK => ?_); go_simp; refine ⟨(.string ⟨t1.toArray⟩), fun W hW => ?_, hK _ ?_⟩; (first | (rw [C11.out W hW]; exact ⟨rfl, rfl⟩) | (rw [C11.out W hW]; rfl)); clear hK K)
              (refine wpQuiet_step (fun K hK => ?_); go_simp; (first | refine hK _ ?_ | refine ⟨_, fun _ _ => rfl, hK _ ?_⟩); clear hK K)
              (refine wpQuiet_step (fun K hK => ?_); go_simp; (first | refine hK _ ?_ | refine ⟨_, fun _ _ => rfl, hK _ ?_⟩); clear hK K)
              (refine wpQuiet_step (fun K hK => ?_); go_simp; refine ⟨.pointer (some ⟨b2, o2 + i * 4, none⟩), fun W hW => ?_, hK _ ?_⟩; (first | (rw [if_pos (by omega)]; exact ⟨rfl, rfl⟩) | (rw [if_pos (by omega)]; rfl) | exact ⟨rfl, rfl⟩ | rfl); clear hK K)
              (refine wpQuiet_step (fun K hK => ?_); go_simp; (first | refine hK _ ?_ | refine ⟨_, fun _ _ => rfl, hK _ ?_⟩); clear hK K)
              (refine wpQuiet_step (fun K hK => ?_); go_simp; refine ⟨(.string ⟨t1.toArray⟩), fun W hW => ?_, hK _ ?_⟩; (first | (rw [C21.out W hW]; exact ⟨rfl, rfl⟩) | (rw [C21.out W hW]; rfl)); clear hK K)
              (refine wpQuiet_step (fun K hK => ?_); go_simp; (first | refine hK _ ?_ | refine ⟨_, fun _ _ => rfl, hK _ ?_⟩); clear hK K)
              (refine wpQuiet_step (fun K hK => ?_); go_simp; (first | refine hK _ ?_ | refine ⟨_, fun _ _ => rfl, hK _ ?_⟩); clear hK K)
              (refine wpQuiet_step (fun K hK => ?_); go_simp; (first | refine hK _ ?_ | refine ⟨_, fun _ _ => rfl, hK _ ?_⟩); clear hK K)
              (refine wpQuiet_step (fun K hK => ?_); go_simp; (first | refine hK _ ?_ | refine ⟨_, fun _ _ => rfl, hK _ ?_⟩); clear hK K)
              (refine wpQuiet_step (fun K hK => ?_); go_simp; (first | refine hK _ ?_ | refine ⟨_, fun _ _ => rfl, hK _ ?_⟩); clear hK K)
              (refine wpQuiet_step (fun K hK => ?_); go_simp; refine ⟨.pointer (some ⟨b, o + i * 4, none⟩), fun W hW => ?_, hK _ ?_⟩; (first | (rw [if_pos (by omega)]; exact ⟨rfl, rfl⟩) | (rw [if_pos (by omega)]; rfl) | exact ⟨rfl, rfl⟩ | rfl); clear hK K)
              (refine wpQuiet_step (fun K hK => ?_); go_simp; (first | refine hK _ ?_ | refine ⟨_, fun _ _ => rfl, hK _ ?_⟩); clear hK K)
              (refine wpQuiet_step (fun K hK => ?_); go_simp; refine ⟨(.int .i64 n1), fun W hW => ?_, hK _ ?_⟩; (first | (rw [C12.out W hW]; exact ⟨rfl, rfl⟩) | (rw [C12.out W hW]; rfl)); clear hK K)
              (refine wpQuiet_step (fun K hK => ?_); go_simp; (first | refine hK _ ?_ | refine ⟨_, fun _ _ => rfl, hK _ ?_⟩); clear hK K)
              (refine wpQuiet_step (fun K hK => ?_); go_simp; (first | refine hK _ ?_ | refine ⟨_, fun _ _ => rfl, hK _ ?_⟩); clear hK K)
              (refine wpQuiet_step (fun K hK => ?_); go_simp; refine ⟨.pointer (some ⟨b2, o2 + i * 4, none⟩), fun W hW => ?_, hK _ ?_⟩; (first | (rw [if_pos (by omega)]; exact ⟨rfl, rfl⟩) | (rw [if_pos (by omega)]; rfl) | exact ⟨rfl, rfl⟩ | rfl); clear hK K)
              (refine wpQuiet_step (fun K hK => ?_); go_simp; (first | refine hK _ ?_ | refine ⟨_, fun _ _ => rfl, hK _ ?_⟩); clear hK K)
              (refine wpQuiet_step (fun K hK => ?_); go_simp; refine ⟨(.int .i64 n2), fun W hW => ?_, hK _ ?_⟩; (first | (rw [C22.out W hW]; exact ⟨rfl, rfl⟩) | (rw [C22.out W hW]; rfl)); clear hK K)
              (refine wpQuiet_step (fun K hK => ?_); go_simp; (first | refine hK _ ?_ | refine ⟨_, fun _ _ => rfl, hK _ ?_⟩); clear hK K)
              (refine wpQuiet_step (fun K hK => ?_); go_simp; (first | refine hK _ ?_ | refine ⟨_, fun _ _ => rfl, hK _ ?_⟩); clear hK K)
              (refine wpQuiet_step (fun K hK => ?_); go_simp; (first | refine hK _ ?_ | refine ⟨_, fun _ _ => rfl, hK _ ?_⟩); clear hK K)
              (with_reducible refine wpQuiet_step (fun K hK => ?_)); go_simp; (with_reducible refine hK _ ?_); clear hK K
              (with_reducible refine wpQuiet_step (fun K hK => ?_)); go_simp; (with_reducible refine hK _ ?_); clear hK K
              (with_reducible refine wpQuiet_step (fun K hK => ?_)); go_simp; (first | (with_reducible refine hK _ ?_) | (rw [if_neg (by intro h; cases h)]; refine hK _ ?_)); clear hK K
              (with_reducible refine wpQuiet_step (fun K hK => ?_)); go_simp; (first | (with_reducible refine hK _ ?_) | (rw [if_neg (by intro h; cases h)]; refine hK _ ?_)); clear hK K
              (with_reducible refine wpQuiet_step (fun K hK => ?_)); go_simp; (first | (with_reducible refine hK _ ?_) | (rw [if_neg (by intro h; cases h)]; refine hK _ ?_)); clear hK K
              (with_reducible refine wpQuiet_step (fun K hK => ?_)); go_simp; (first | (with_reducible refine hK _ ?_) | (rw [if_neg (by intro h; cases h)]; refine hK _ ?_)); clear hK K
              (with_reducible refine wpQuiet_step (fun K hK => ?_)); go_simp; (first | (with_reducible refine hK _ ?_) | (rw [if_neg (by intro h; cases h)]; refine hK _ ?_)); clear hK K
              (with_reducible refine wpQuiet_step (fun K hK => ?_)); go_simp; (first | (with_reducible refine hK _ ?_) | (rw [if_neg (by intro h; cases h)]; refine hK _ ?_)); clear hK K
              (with_reducible refine wpQuiet_step (fun K hK => ?_)); go_simp; (first | (with_reducible refine hK _ ?_) | (rw [if_neg (by intro h; cases h)]; refine hK _ ?_)); clear hK K
              (with_reducible refine wpQuiet_step (fun K hK => ?_)); go_simp; (first | (with_reducible refine hK _ ?_) | (rw [if_neg (by intro h; cases h)]; refine hK _ ?_)); clear hK K
              (with_reducible refine wpQuiet_step (fun K hK => ?_)); go_simp; (first | (with_reducible refine hK _ ?_) | (rw [if_neg (by intro h; cases h)]; refine hK _ ?_)); clear hK K
              (with_reducible refine wpQuiet_step (fun K hK => ?_)); go_simp; (first | (with_reducible refine hK _ ?_) | (rw [if_neg (by intro h; cases h)]; refine hK _ ?_)); clear hK K
              (with_reducible refine wpQuiet_step (fun K hK => ?_)); go_simp; (first | (with_reducible refine hK _ ?_) | (rw [if_neg (by intro h; cases h)]; refine hK _ ?_)); clear hK K
              (with_reducible refine wpQuiet_step (fun K hK => ?_)); go_simp; (with_reducible refine hK _ ?_); clear hK K
              (refine wpQuiet_step (fun K hK => ?_); go_simp; (first | refine hK _ ?_ | refine ⟨_, fun _ _ => rfl, hK _ ?_⟩); clear hK K)
              refine wpQuiet_nil ?_
              intro w2 Z2
              have Z3 := Wire.bc Z Z2
              clear Z Z2
              go_wp2
              go_ret
              exact ⟨by rw [HR.out]; rfl, Z3⟩
          · have e2 : (t1 == t2) = false := by simpa using h2
            have HR := Lib.hid (HBAD.out (by simp [eqT, e2]))
            clear hlt
            go_wp2
            refine QTail.whole (fun W => Below wr.heap.size wr W) (by kernel_rfl) (by kernel_rfl) (Below.refl _ _).drew ?_
            (refine wpQuiet_step (fun K hK => ?_); go_simp; (first | refine hK _ ?_ | refine ⟨_, fun _ _ => rfl, hK _ ?_⟩); clear hK K)
            (refine wpQuiet_step (fun K hK => ?_); go_simp; (first | refine hK _ ?_ | refine ⟨_, fun _ _ => rfl, hK _ ?_⟩); clear hK K)
            (refine wpQuiet_step (fun K hK => ?_); go_simp; refine ⟨.pointer (some ⟨b, o + i * 4, none⟩), fun W hW => ?_, hK _ ?_⟩; (first | (rw [if_pos (by omega)]; exact ⟨rfl, rfl⟩) | (rw [if_pos (by omega)]; rfl) | exact ⟨rfl, rfl⟩ | rfl); clear hK K)
            (refine wpQuiet_step (fun K hK => ?_); go_simp; (first | refine hK _ ?_ | refine ⟨_, fun _ _ => rfl, hK _ ?_⟩); clear hK K)
            (refine wpQuiet_step (fun K hK => ?_); go_simp; refine ⟨(.int .i64 k1), fun W hW => ?_, hK _ ?_⟩; (first | (rw [C10.out W hW]; exact ⟨rfl, rfl⟩) | (rw [C10.out W hW]; rfl)); clear hK K)
            (refine wpQuiet_step (fun K hK => ?_); go_simp; (first | refine hK _ ?_ | refine ⟨_, fun _ _ => rfl, hK _ ?_⟩); clear hK K)
            (refine wpQuiet_step (fun K hK => ?_); go_simp; (first | refine hK _ ?_ | refine ⟨_, fun _ _ => rfl, hK _ ?_⟩); clear hK K)
            (refine wpQuiet_step (fun K hK => ?_); go_simp; refine ⟨.pointer (some ⟨b2, o2 + i * 4, none⟩), fun W hW => ?_, hK _ ?_⟩; (first | (rw [if_pos (by omega)]; exact ⟨rfl, rfl⟩) | (rw [if_pos (by omega)]; rfl) | exact ⟨rfl, rfl⟩ | rfl); clear hK K)
            (refine wpQuiet_step (fun K hK => ?_); go_simp; (first | refine hK _ ?_ | refine ⟨_, fun _ _ => rfl, hK _ ?_⟩); clear hK K)
            (refine wpQuiet_step (fun K hK => ?_); go_simp; refine ⟨(.int .i64 k1), fun W hW => ?_, hK _ ?_⟩; (first | (rw [C20.out W hW]; exact ⟨rfl, rfl⟩) | (rw [C20.out W hW]; rfl)); clear hK K)
            (refine wpQuiet_step (fun K hK => ?_); go_simp; (first | refine hK _ ?_ | refine ⟨_, fun _ _ => rfl, hK _ ?_⟩); clear hK K)
            (refine wpQuiet_step (fun K hK => ?_); go_simp; (first | refine hK _ ?_ | refine ⟨_, fun _ _ => rfl, hK _ ?_⟩); clear hK K)
            (refine wpQuiet_step (fun K hK => ?_); go_simp; (first | refine hK _ ?_ | refine ⟨_, fun _ _ => rfl, hK _ ?_⟩); clear hK K)
            (refine wpQuiet_step (fun K hK => ?_); go_simp; (first | refine hK _ ?_ | refine ⟨_, fun _ _ => rfl, hK _ ?_⟩); clear hK K)
            (refine wpQuiet_step (fun K hK => ?_); go_simp; refine ⟨.pointer (some ⟨b, o + i * 4, none⟩), fun W hW => ?_, hK _ ?_⟩; (first | (rw [if_pos (by omega)]; exact ⟨rfl, rfl⟩) | (rw [if_pos (by omega)]; rfl) | exact ⟨rfl, rfl⟩ | rfl); clear hK K)
            (refine wpQuiet_step (fun K hK => ?_); go_simp; (first | refine hK _ ?_ | refine ⟨_, fun _ _ => rfl, hK _ ?_⟩); clear hK K)
            (refine wpQuiet_step (fun K hK => ?_); go_simp; refine ⟨(.string ⟨t1.toArray⟩), fun W hW => ?_, hK _ ?_⟩; (first | (rw [C11.out W hW]; exact ⟨rfl, rfl⟩) | (rw [C11.out W hW]; rfl)); clear hK K)
            (refine wpQuiet_step (fun K hK => ?_); go_simp; (first | refine hK _ ?_ | refine ⟨_, fun _ _ => rfl, hK _ ?_⟩); clear hK K)
            (refine wpQuiet_step (fun K hK => ?_); go_simp; (first | refine hK _ ?_ | refine ⟨_, fun _ _ => rfl, hK _ ?_⟩); clear hK K)
            (refine wpQuiet_step (fun K hK => ?_); go_simp; refine ⟨.pointer (some ⟨b2, o2 + i * 4, none⟩), fun W hW => ?_, hK _ ?_⟩; (first | (rw [if_pos (by omega)]; exact ⟨rfl, rfl⟩) | (rw [if_pos (by omega)]; rfl) | exact ⟨rfl, rfl⟩ | rfl); clear hK K)
            (refine wpQuiet_step (fun K hK => ?_); go_simp; (first | refine hK _ ?_ | refine ⟨_, fun _ _ => rfl, hK _ ?_⟩); clear hK K)
            (refine wpQuiet_step (fun K hK => ?_); go_simp; refine ⟨(.string ⟨t2.toArray⟩), fun W hW => ?_, hK _ ?_⟩; (first | (rw [C21.out W hW]; exact ⟨rfl, rfl⟩) | (rw [C21.out W hW]; rfl)); clear hK K)
            (refine wpQuiet_step (fun K hK => ?_); go_simp; (first | refine hK _ ?_ | refine ⟨_, fun _ _ => rfl, hK _ ?_⟩); clear hK K)
            (refine wpQuiet_step (fun K hK => ?_); go_simp; (first | refine hK _ ?_ | refine ⟨_, fun _ _ => rfl, hK _ ?_⟩); clear hK K)
            (refine wpQuiet_step (fun K hK => ?_); go_simp; (first | refine hK _ ?_ | refine ⟨_, fun _ _ => rfl, hK _ ?_⟩); clear hK K)
            (with_reducible refine wpQuiet_step (fun K hK => ?_)); go_simp; (with_reducible refine hK _ ?_); clear hK K
            (with_reducible refine wpQuiet_step (fun K hK => ?_)); go_simp; (with_reducible refine hK _ ?_); clear hK K
            (with_reducible refine wpQuiet_step (fun K hK => ?_)); go_simp; (with_reducible refine hK _ ?_); clear hK K
            (with_reducible refine wpQuiet_step (fun K hK => ?_)); go_simp; (with_reducible refine hK _ ?_); clear hK K
            (with_reducible refine wpQuiet_step (fun K hK => ?_)); go_simp; (with_reducible refine hK _ ?_); clear hK K
            (with_reducible refine wpQuiet_step (fun K hK => ?_)); go_simp; (with_reducible refine hK _ ?_); clear hK K
            (with_reducible refine wpQuiet_step (fun K hK => ?_)); go_simp; (with_reducible refine hK _ ?_); clear hK K
            (with_reducible refine wpQuiet_step (fun K hK => ?_)); go_simp; (with_reducible refine hK _ ?_); clear hK K
            (with_reducible refine wpQuiet_step (fun K hK => ?_)); go_simp; (with_reducible refine hK _ ?_); clear hK K
            (with_reducible refine wpQuiet_step (fun K hK => ?_)); go_simp; (with_reducible refine hK _ ?_); clear hK K
            (with_reducible refine wpQuiet_step (fun K hK => ?_)); go_simp; (with_reducible refine hK _ ?_); clear hK K
            (refine wpQuiet_step (fun K hK => ?_); go_simp; (first | refine hK _ ?_ | refine ⟨_, fun _ _ => rfl, hK _ ?_⟩); clear hK K)
            (refine wpQuiet_step (fun K hK => ?_); go_simp; (first | refine hK _ ?_ | refine ⟨_, fun _ _ => rfl, hK _ ?_⟩); clear hK K)
            (with_reducible refine wpQuiet_step (fun K hK => ?_)); go_simp; (with_reducible refine hK _ ?_); clear hK K
            (with_reducible refine wpQuiet_step (fun K hK => ?_)); go_simp; (with_reducible refine hK _ ?_); clear hK K
            (with_reducible refine wpQuiet_step (fun K hK => ?_)); go_simp; (first | (with_reducible refine hK _ ?_) | (rw [if_neg (by intro h; cases h)]; refine hK _ ?_)); clear hK K
            (with_reducible refine wpQuiet_step (fun K hK => ?_)); go_simp; (first | (with_reducible refine hK _ ?_) | (rw [if_neg (by intro h; cases h)]; refine hK _ ?_)); clear hK K
            (with_reducible refine wpQuiet_step (fun K hK => ?_)); go_simp; (first | (with_reducible refine hK _ ?_) | (rw [if_neg (by intro h; cases h)]; refine hK _ ?_)); clear hK K
            (with_reducible refine wpQuiet_step (fun K hK => ?_)); go_simp; (first | (with_reducible refine hK _ ?_) | (rw [if_neg (by intro h; cases h)]; refine hK _ ?_)); clear hK K
            (with_reducible refine wpQuiet_step (fun K hK => ?_)); go_simp; (first | (with_reducible refine hK _ ?_) | (rw [if_neg (by intro h; cases h)]; refine hK _ ?_)); clear hK K
            (with_reducible refine wpQuiet_step (fun K hK => ?_)); go_simp; (first | (with_reducible refine hK _ ?_) | (rw [if_neg (by intro h; cases h)]; refine hK _ ?_)); clear hK K
            (with_reducible refine wpQuiet_step (fun K hK => ?_)); go_simp; (first | (with_reducible refine hK _ ?_) | (rw [if_neg (by intro h; cases h)]; refine hK _ ?_)); clear hK K
            (with_reducible refine wpQuiet_step (fun K hK => ?_)); go_simp; (first | (with_reducible refine hK _ ?_) | (rw [if_neg (by intro h; cases h)]; refine hK _ ?_)); clear hK K
            (with_reducible refine wpQuiet_step (fun K hK => ?_)); go_simp; (first | (with_reducible refine hK _ ?_) | (rw [if_neg (by intro h; cases h)]; refine hK _ ?_)); clear hK K
            (with_reducible refine wpQuiet_step (fun K hK => ?_)); go_simp; (first | (with_reducible refine hK _ ?_) | (rw [if_neg (by intro h; cases h)]; refine hK _ ?_)); clear hK K
            (with_reducible refine wpQuiet_step (fun K hK => ?_)); go_simp; (first | (with_reducible refine hK _ ?_) | (rw [if_neg (by intro h; cases h)]; refine hK _ ?_)); clear hK K
            (with_reducible refine wpQuiet_step (fun K hK => ?_)); go_simp; (with_reducible refine hK _ ?_); clear hK K
            (refine wpQuiet_step (fun K hK => ?_); go_simp; (first | refine hK _ ?_ | refine ⟨_, fun _ _ => rfl, hK _ ?_⟩); clear hK K)
            refine wpQuiet_nil ?_
            intro w2 Z2
            have Z3 := Wire.bc Z Z2
            clear Z Z2
            go_wp2
            go_ret
            exact ⟨by rw [HR.out]; rfl, Z3⟩
        · have e1 : (k1 == k2) = false := by simpa using h1
          have HR := Lib.hid (HBAD.out (by simp [eqT, e1]))
          clear hlt
          go_wp2
          refine QTail.whole (fun W => Below wr.heap.size wr W) (by kernel_rfl) (by kernel_rfl) (Below.refl _ _).drew ?_
          (refine wpQuiet_step (fun K hK => ?_); go_simp; (first | refine hK _ ?_ | refine ⟨_, fun _ _ => rfl, hK _ ?_⟩); clear hK K)
          (refine wpQuiet_step (fun K hK => ?_); go_simp; (first | refine hK _ ?_ | refine ⟨_, fun _ _ => rfl, hK _ ?_⟩); clear hK K)
          (refine wpQuiet_step (fun K hK => ?_); go_simp; refine ⟨.pointer (some ⟨b, o + i * 4, none⟩), fun W hW => ?_, hK _ ?_⟩; (first | (rw [if_pos (by omega)]; exact ⟨rfl, rfl⟩) | (rw [if_pos (by omega)]; rfl) | exact ⟨rfl, rfl⟩ | rfl); clear hK K)
          (refine wpQuiet_step (fun K hK => ?_); go_simp; (first | refine hK _ ?_ | refine ⟨_, fun _ _ => rfl, hK _ ?_⟩); clear hK K)
          (refine wpQuiet_step (fun K hK => ?_); go_simp; refine ⟨(.int .i64 k1), fun W hW => ?_, hK _ ?_⟩; (first | (rw [C10.out W hW]; exact ⟨rfl, rfl⟩) | (rw [C10.out W hW]; rfl)); clear hK K)
          (refine wpQuiet_step (fun K hK => ?_); go_simp; (first | refine hK _ ?_ | refine ⟨_, fun _ _ => rfl, hK _ ?_⟩); clear hK K)
          (refine wpQuiet_step (fun K hK => ?_); go_simp; (first | refine hK _ ?_ | refine ⟨_, fun _ _ => rfl, hK _ ?_⟩); clear hK K)
          (refine wpQuiet_step (fun K hK => ?_); go_simp; refine ⟨.pointer (some ⟨b2, o2 + i * 4, none⟩), fun W hW => ?_, hK _ ?_⟩; (first | (rw [if_pos (by omega)]; exact ⟨rfl, rfl⟩) | (rw [if_pos (by omega)]; rfl) | exact ⟨rfl, rfl⟩ | rfl); clear hK K)
          (refine wpQuiet_step (fun K hK => ?_); go_simp; (first | refine hK _ ?_ | refine ⟨_, fun _ _ => rfl, hK _ ?_⟩); clear hK K)
          (refine wpQuiet_step (fun K hK => ?_); go_simp; refine ⟨(.int .i64 k2), fun W hW => ?_, hK _ ?_⟩; (first | (rw [C20.out W hW]; exact ⟨rfl, rfl⟩) | (rw [C20.out W hW]; rfl)); clear hK K)
          (refine wpQuiet_step (fun K hK => ?_); go_simp; (first | refine hK _ ?_ | refine ⟨_, fun _ _ => rfl, hK _ ?_⟩); clear hK K)
          (refine wpQuiet_step (fun K hK => ?_); go_simp; (first | refine hK _ ?_ | refine ⟨_, fun _ _ => rfl, hK _ ?_⟩); clear hK K)
          (with_reducible refine wpQuiet_step (fun K hK => ?_)); go_simp; (with_reducible refine hK _ ?_); clear hK K
          (with_reducible refine wpQuiet_step (fun K hK => ?_)); go_simp; (with_reducible refine hK _ ?_); clear hK K
          (with_reducible refine wpQuiet_step (fun K hK => ?_)); go_simp; (with_reducible refine hK _ ?_); clear hK K
          (with_reducible refine wpQuiet_step (fun K hK => ?_)); go_simp; (with_reducible refine hK _ ?_); clear hK K
          (with_reducible refine wpQuiet_step (fun K hK => ?_)); go_simp; (with_reducible refine hK _ ?_); clear hK K
          (with_reducible refine wpQuiet_step (fun K hK => ?_)); go_simp; (with_reducible refine hK _ ?_); clear hK K
          (with_reducible refine wpQuiet_step (fun K hK => ?_)); go_simp; (with_reducible refine hK _ ?_); clear hK K
          (with_reducible refine wpQuiet_step (fun K hK => ?_)); go_simp; (with_reducible refine hK _ ?_); clear hK K
          (with_reducible refine wpQuiet_step (fun K hK => ?_)); go_simp; (with_reducible refine hK _ ?_); clear hK K
          (with_reducible refine wpQuiet_step (fun K hK => ?_)); go_simp; (with_reducible refine hK _ ?_); clear hK K
          (with_reducible refine wpQuiet_step (fun K hK => ?_)); go_simp; (with_reducible refine hK _ ?_); clear hK K
          (refine wpQuiet_step (fun K hK => ?_); go_simp; (first | refine hK _ ?_ | refine ⟨_, fun _ _ => rfl, hK _ ?_⟩); clear hK K)
          (refine wpQuiet_step (fun K hK => ?_); go_simp; (first | refine hK _ ?_ | refine ⟨_, fun _ _ => rfl, hK _ ?_⟩); clear hK K)
          (with_reducible refine wpQuiet_step (fun K hK => ?_)); go_simp; (with_reducible refine hK _ ?_); clear hK K
          (with_reducible refine wpQuiet_step (fun K hK => ?_)); go_simp; (with_reducible refine hK _ ?_); clear hK K
          (with_reducible refine wpQuiet_step (fun K hK => ?_)); go_simp; (with_reducible refine hK _ ?_); clear hK K
          (with_reducible refine wpQuiet_step (fun K hK => ?_)); go_simp; (with_reducible refine hK _ ?_); clear hK K
          (with_reducible refine wpQuiet_step (fun K hK => ?_)); go_simp; (with_reducible refine hK _ ?_); clear hK K
          (with_reducible refine wpQuiet_step (fun K hK => ?_)); go_simp; (with_reducible refine hK _ ?_); clear hK K
          (with_reducible refine wpQuiet_step (fun K hK => ?_)); go_simp; (with_reducible refine hK _ ?_); clear hK K
          (with_reducible refine wpQuiet_step (fun K hK => ?_)); go_simp; (with_reducible refine hK _ ?_); clear hK K
          (with_reducible refine wpQuiet_step (fun K hK => ?_)); go_simp; (with_reducible refine hK _ ?_); clear hK K
          (with_reducible refine wpQuiet_step (fun K hK => ?_)); go_simp; (with_reducible refine hK _ ?_); clear hK K
          (with_reducible refine wpQuiet_step (fun K hK => ?_)); go_simp; (with_reducible refine hK _ ?_); clear hK K
          (refine wpQuiet_step (fun K hK => ?_); go_simp; (first | refine hK _ ?_ | refine ⟨_, fun _ _ => rfl, hK _ ?_⟩); clear hK K)
          (refine wpQuiet_step (fun K hK => ?_); go_simp; (first | refine hK _ ?_ | refine ⟨_, fun _ _ => rfl, hK _ ?_⟩); clear hK K)
          (with_reducible refine wpQuiet_step (fun K hK => ?_)); go_simp; (with_reducible refine hK _ ?_); clear hK K
          (with_reducible refine wpQuiet_step (fun K hK => ?_)); go_simp; (with_reducible refine hK _ ?_); clear hK K
          (with_reducible refine wpQuiet_step (fun K hK => ?_)); go_simp; (first | (with_reducible refine hK _ ?_) | (rw [if_neg (by intro h; cases h)]; refine hK _ ?_)); clear hK K
          (with_reducible refine wpQuiet_step (fun K hK => ?_)); go_simp; (first | (with_reducible refine hK _ ?_) | (rw [if_neg (by intro h; cases h)]; refine hK _ ?_)); clear hK K
          (with_reducible refine wpQuiet_step (fun K hK => ?_)); go_simp; (first | (with_reducible refine hK _ ?_) | (rw [if_neg (by intro h; cases h)]; refine hK _ ?_)); clear hK K
          (with_reducible refine wpQuiet_step (fun K hK => ?_)); go_simp; (first | (with_reducible refine hK _ ?_) | (rw [if_neg (by intro h; cases h)]; refine hK _ ?_)); clear hK K
          (with_reducible refine wpQuiet_step (fun K hK => ?_)); go_simp; (first | (with_reducible refine hK _ ?_) | (rw [if_neg (by intro h; cases h)]; refine hK _ ?_)); clear hK K
          (with_reducible refine wpQuiet_step (fun K hK => ?_)); go_simp; (first | (with_reducible refine hK _ ?_) | (rw [if_neg (by intro h; cases h)]; refine hK _ ?_)); clear hK K
          (with_reducible refine wpQuiet_step (fun K hK => ?_)); go_simp; (first | (with_reducible refine hK _ ?_) | (rw [if_neg (by intro h; cases h)]; refine hK _ ?_)); clear hK K
          (with_reducible refine wpQuiet_step (fun K hK => ?_)); go_simp; (first | (with_reducible refine hK _ ?_) | (rw [if_neg (by intro h; cases h)]; refine hK _ ?_)); clear hK K
          (with_reducible refine wpQuiet_step (fun K hK => ?_)); go_simp; (first | (with_reducible refine hK _ ?_) | (rw [if_neg (by intro h; cases h)]; refine hK _ ?_)); clear hK K
          (with_reducible refine wpQuiet_step (fun K hK => ?_)); go_simp; (first | (with_reducible refine hK _ ?_) | (rw [if_neg (by intro h; cases h)]; refine hK _ ?_)); clear hK K
          (with_reducible refine wpQuiet_step (fun K hK => ?_)); go_simp; (first | (with_reducible refine hK _ ?_) | (rw [if_neg (by intro h; cases h)]; refine hK _ ?_)); clear hK K
          (with_reducible refine wpQuiet_step (fun K hK => ?_)); go_simp; (with_reducible refine hK _ ?_); clear hK K
          (refine wpQuiet_step (fun K hK => ?_); go_simp; (first | refine hK _ ?_ | refine ⟨_, fun _ _ => rfl, hK _ ?_⟩); clear hK K)
          refine wpQuiet_nil ?_
          intro w2 Z2
          have Z3 := Wire.bc Z Z2
          clear Z Z2
          go_wp2
          go_ret
          exact ⟨by rw [HR.out]; rfl, Z3⟩
      · have z1 : ¬ (i : Int) < (n : Int) := by omega
        have HR : Hid (sameK wh l m = true) := Lib.hid (by
          have h := HI.out.2
          rw [List.take_of_length_le (by rw [HLN.out]; omega), List.take_of_length_le (by rw [HMN.out]; omega)] at h
          exact h)
        go_wp2
        go_ret
        exact ⟨by rw [HR.out]; rfl, Z⟩
  · have hne : ((n : Int) == (k : Int)) = false := by simp; omega
    have HR := Lib.hid (sameK_len wh l m (by rw [hln, hmn]; exact hnk))
    clear hl hm hln hmn
    go_enter Tryd.func12, Tryd.ntmps12
    go_wp2
    go_ret
    exact ⟨by rw [HR.out]; rfl, Below.refl _ _⟩
end Lx
end Go.Proofs.YtjijlepkcghmeaaDoor
