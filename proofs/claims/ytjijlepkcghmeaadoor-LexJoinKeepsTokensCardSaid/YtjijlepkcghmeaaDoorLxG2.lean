/- Tokens of two texts with a comment between them; a row of tokens whose indices are moved. Conditions: those that are named. -/
import Derived.Test.YtjijlepkcghmeaaDoorLxI
namespace Go.Proofs.YtjijlepkcghmeaaDoor
open Go.RowKit
namespace Lx
open Wire (bv sv Lies)
open Hash (Arr)

theorem gaps_toks {a b c : List UInt8} {l m : List Tok} (ha : toks 0 a = .ok l) (hb : toks 0 b = .ok m) (hc : ∀ x ∈ c, x ≠ 10) :
    toks 0 (a ++ 10 :: 35 :: (c ++ 10 :: b)) = .ok (l ++ m.map (Tok.move (a.length + c.length + 3))) := by
  rw [toks_app (35 :: (c ++ 10 :: b)) (a.length + 1) 0 a l (Nat.lt_succ_self _) ha, toks_comment _ _ _ hc]
  have h := toks_move (0 + a.length + 1 + c.length + 2) (b.length + 1) 0 b (Nat.lt_succ_self _)
  rw [hb, Nat.zero_add] at h
  rw [show 0 + a.length + 1 + c.length + 2 = a.length + c.length + 3 by omega] at h ⊢
  rw [h]
  rfl
theorem lie_pos : ∀ (l : List Tok) (i : Nat) (s : List UInt8), Lie i s l → ∀ t ∈ l, t.pos ≤ i + s.length
  | [], i, s, _ => fun t h => by cases h
  | t :: l, i, s, h => by
    obtain ⟨h1, h2, h3, h4, h5, h6⟩ := h
    have ih := lie_pos l _ _ h6
    rw [List.length_drop] at ih
    intro u hu
    rcases List.mem_cons.1 hu with rfl | hu
    · omega
    · have := ih u hu; omega
/-- The first i tokens are moved. -/
def mv (D : Nat) : Nat → List Tok → List Tok
  | 0, l => l
  | _ + 1, [] => []
  | i + 1, t :: l => t.move D :: mv D i l
theorem mv_all (D : Nat) : ∀ l : List Tok, mv D l.length l = l.map (Tok.move D)
  | [] => rfl
  | t :: l => by rw [List.length_cons, mv, mv_all D l]; rfl
theorem mv_at (D : Nat) : ∀ (i : Nat) (l : List Tok), (mv D i l)[i]? = l[i]?
  | 0, l => rfl
  | i + 1, [] => rfl
  | i + 1, t :: l => by rw [mv]; exact mv_at D i l
theorem mv_next (D : Nat) : ∀ (i : Nat) (l : List Tok) (t : Tok), l[i]? = some t → mv D (i + 1) l = (mv D i l).set i (t.move D)
  | _, [], _, h => by cases h
  | 0, u :: l, t, h => by cases h; rfl
  | i + 1, u :: l, t, h => by
    rw [mv, mv_next D i l t h]
    rfl
theorem mv_len (D : Nat) : ∀ (i : Nat) (l : List Tok), (mv D i l).length = l.length
  | 0, l => rfl
  | i + 1, [] => rfl
  | i + 1, t :: l => by rw [mv, List.length_cons, mv_len D i l]; rfl
theorem cellsK_set : ∀ (l : List TI) (i : Nat) (t : TI) (p : Int), l[i]? = some t → (cellsK l).set (i * 4 + 3) (.int .i64 p) = cellsK (l.set i ⟨t.kind, t.text, t.n, p⟩)
  | [], _, _, _, h => by cases h
  | u :: l, 0, t, p, h => by cases h; rfl
  | u :: l, i + 1, t, p, h => by
    rw [List.set_cons_succ, cellsK_cons, cellsK_cons, ← cellsK_set l i t p h, List.set_append_right _ _ (by show 4 ≤ _; omega)]
    congr 2
    show _ - 4 = _
    omega
theorem lies_take {W : World} {B : Nat} {A : Option Addr} {n c : Nat} {l : List TI} (h : Lies W B 4 A n c (cellsK l)) {k : Nat} (hk : k ≤ n) : Lies W B 4 A k c (cellsK (l.take k)) := by
  have hn := lies_len h
  refine ⟨?_, by have := h.le; omega, h.most, h.some_, fun hp => ?_⟩
  · rw [cellsK_length, List.length_take]; omega
  · obtain ⟨b, o, e, hb, hc⟩ := h.cells (by omega)
    refine ⟨b, o, e, hb, fun j u hu => hc j u ?_⟩
    rw [cellsK_take, List.getElem?_take] at hu
    split at hu
    · exact hu
    · cases hu
theorem lies_drop {W : World} {B : Nat} {b o : Nat} {n c : Nat} {l : List TI} (h : Lies W B 4 (some ⟨b, o, none⟩) n c (cellsK l)) {k : Nat} (hk : k ≤ n) : Lies W B 4 (some ⟨b, o + k * 4, none⟩) (n - k) (c - k) (cellsK (l.drop k)) := by
  have hn := lies_len h
  have hle := h.le
  have hm := h.most
  refine ⟨?_, by omega, by omega, fun _ => ⟨_, _, rfl⟩, fun hp => ?_⟩
  · rw [cellsK_length, List.length_drop]; omega
  · obtain ⟨b', o', e, hb, hc⟩ := h.cells (by omega)
    simp only [Option.some.injEq, Addr.mk.injEq, and_true] at e
    obtain ⟨rfl, rfl⟩ := e
    refine ⟨b, o + k * 4, rfl, hb, fun j u hu => ?_⟩
    rw [cellsK_drop, List.getElem?_drop] at hu
    rw [Nat.add_assoc]
    exact hc _ u hu
theorem own_arr {W : World} {base g n c : Nat} {l : List TI} (h : OwnK W base (.slice (some ⟨g, 0, none⟩) n c) n l) : Arr W g (n * 4) (cellsK l) ∧ g < W.heap.size ∧ base ≤ g ∧ n ≤ c ∧ c ≤ maxLen := by
  have hl := h.len
  rcases h.own.2 with ⟨h0, _⟩ | ⟨g2, cap, cur, e, hb, hh, h1, h2, h3, h4⟩
  · cases h0
  · cases e
    refine ⟨⟨by rw [cellsK_length, hl], fun j u hu => ?_, fun j _ => frozen_of_row W g j cur _ hh⟩, (Array.getElem?_eq_some_iff.1 hh).1, hb, h1, h2⟩
    have hj : j < n * 4 := by have := (List.getElem?_eq_some_iff.1 hu).1; rw [cellsK_length, hl] at this; exact this
    rw [cell_of_row W g j cur _ (0, 0) hh, ← Array.getElem?_toList]
    rw [← h4, List.getElem?_take, if_pos hj] at hu
    exact hu
theorem arr_lies {W : World} {g n c : Nat} {l : List TI} (h : Arr W g (n * 4) (cellsK l)) (hl : l.length = n) (hn : n ≤ c) (hc : c ≤ maxLen) (hg : g < W.heap.size) : Lies W W.heap.size 4 (some ⟨g, 0, none⟩) n c (cellsK l) :=
  ⟨by rw [cellsK_length, hl], hn, hc, fun _ => ⟨g, 0, rfl⟩, fun _ => ⟨g, 0, rfl, hg, fun j u hu => by rw [Nat.zero_add]; exact h.cells j u hu⟩⟩
theorem OwnK.aside {W : World} {base n g : Nat} {v : Value} {l : List TI} (h : OwnK W base v n l) (hne : ∀ j, v.ownBlock = some j → j ≠ g) (o : Nat) (x : Value) : OwnK (W.setCell ⟨g, o, none⟩ x) base v n l := by
  refine ⟨⟨h.own.1, ?_⟩⟩
  rcases h.own.2 with h2 | ⟨g2, cap, cur, hv, hb, hh, r⟩
  · exact .inl h2
  · refine .inr ⟨g2, cap, cur, hv, hb, ?_, r⟩
    have : g2 ≠ g := hne g2 (by rw [hv]; rfl)
    rw [Below.heap_setCell W ⟨g, o, none⟩ x g2 this]
    exact hh
end Lx
end Go.Proofs.YtjijlepkcghmeaaDoor
