/- Rows of tokens in memory. No condition. -/
import Derived.Test.YtjijlepkcghmeaaDoorLxO
import Derived.Laws.OwnMore
namespace Go.Proofs.YtjijlepkcghmeaaDoor
open Go.RowKit
namespace Lx
open Wire (bv sv Lies own_below own_more)

/-- A token as it lies in memory. -/
structure TI where
  kind : Int
  text : List UInt8
  n : Int
  pos : Int
def TI.cells (t : TI) : List Value := [.int .i64 t.kind, .string ⟨t.text.toArray⟩, .int .i64 t.n, .int .i64 t.pos]
def Tok.ti (t : Tok) : TI := ⟨(t.kind : Int), t.text, (t.n : Int), (t.pos : Int)⟩
def cellsK (l : List TI) : List Value := l.flatMap TI.cells
theorem cellsK_append (l m : List TI) : cellsK (l ++ m) = cellsK l ++ cellsK m := by simp [cellsK]
theorem cellsK_one (t : TI) : cellsK [t] = t.cells := by simp [cellsK]
theorem cellsK_cons (t : TI) (l : List TI) : cellsK (t :: l) = t.cells ++ cellsK l := rfl
theorem cellsK_length : ∀ l : List TI, (cellsK l).length = l.length * 4
  | [] => rfl
  | t :: l => by rw [cellsK_cons, List.length_append, cellsK_length l, List.length_cons]; show 4 + _ = _; omega
theorem cellsK_at : ∀ {l : List TI} {j : Nat} {t : TI}, l[j]? = some t → ∀ {i : Nat} {u : Value}, t.cells[i]? = some u → (cellsK l)[j * 4 + i]? = some u
  | [], _, _, h, _, _, _ => by cases h
  | s :: l, 0, t, h, i, u, hu => by
    cases h
    have hi : i < 4 := (List.getElem?_eq_some_iff.1 hu).1
    rw [cellsK_cons, List.getElem?_append_left (by show _ < 4; omega), Nat.zero_mul, Nat.zero_add]
    exact hu
  | s :: l, j + 1, t, h, i, u, hu => by
    rw [cellsK_cons, List.getElem?_append_right (by show 4 ≤ _; omega)]
    have e : (j + 1) * 4 + i - s.cells.length = j * 4 + i := by show _ - 4 = _; omega
    rw [e]
    exact cellsK_at (l := l) h hu
theorem cellsK_take : ∀ (l : List TI) (k : Nat), cellsK (l.take k) = (cellsK l).take (k * 4)
  | [], k => by simp [cellsK]
  | t :: l, 0 => by simp [cellsK]
  | t :: l, k + 1 => by
    rw [List.take_succ_cons, cellsK_cons, cellsK_cons, cellsK_take l k, List.take_append]
    have e1 : t.cells.take ((k + 1) * 4) = t.cells := List.take_of_length_le (by show 4 ≤ _; omega)
    have e2 : (k + 1) * 4 - t.cells.length = k * 4 := by show _ - 4 = _; omega
    rw [e1, e2]
theorem cellsK_drop : ∀ (l : List TI) (k : Nat), cellsK (l.drop k) = (cellsK l).drop (k * 4)
  | [], k => by simp [cellsK]
  | t :: l, 0 => by simp
  | t :: l, k + 1 => by
    rw [List.drop_succ_cons, cellsK_cons, cellsK_drop l k, List.drop_append]
    have e1 : t.cells.drop ((k + 1) * 4) = [] := List.drop_eq_nil_of_le (by show 4 ≤ _; omega)
    have e2 : (k + 1) * 4 - t.cells.length = k * 4 := by show _ - 4 = _; omega
    rw [e1, e2, List.nil_append]
theorem cellsK_onecell : ∀ (l : List TI), ∀ u ∈ cellsK l, u.oneCell' = true := fun l u hu => by
  obtain ⟨t, _, h⟩ := List.mem_flatMap.1 hu
  simp only [TI.cells, List.mem_cons, List.not_mem_nil, or_false] at h
  rcases h with rfl | rfl | rfl | rfl <;> rfl
/-- A row of tokens of one's own, from base on. -/
structure OwnK (w : World) (base : Nat) (v : Value) (n : Nat) (l : List TI) : Prop where
  own : w.ownsRow base 36 4 v n (cellsK l)
section
variable {w w' : World} {base n : Nat} {v : Value} {l : List TI}
theorem OwnK.len (h : OwnK w base v n l) : l.length = n := by
  have := h.own.1
  rw [cellsK_length] at this
  omega
theorem OwnK.on (h : OwnK w base v n l) (hb : Below w.heap.size w w') : OwnK w' base v n l := ⟨own_below h.own hb⟩
theorem OwnK.more {base' : Nat} (h : OwnK w base v n l) (hb : base' ≤ base) : OwnK w base' v n l := ⟨own_more h.own hb⟩
theorem ownK_nil (w : World) (base : Nat) : OwnK w base (.slice none 0 0) 0 [] := ⟨World.ownsRow_nil _ _ _ _⟩
theorem OwnK.form (h : OwnK w base v n l) : ∃ A c, v = .slice A n c ∧ Lies w w.heap.size 4 A n c (cellsK l) := by
  rcases h.own.2 with ⟨rfl, rfl⟩ | ⟨g, cap, cur, rfl, _⟩
  · obtain rfl := List.eq_nil_of_length_eq_zero h.len
    exact ⟨none, 0, rfl, ⟨rfl, Nat.le_refl _, Nat.zero_le _, fun h => absurd h (Nat.lt_irrefl 0), fun h => absurd h (Nat.lt_irrefl 0)⟩⟩
  · exact ⟨_, _, rfl, Wire.lies_own h.own⟩
end
theorem tok_info : (Tryd.prog.info? 36).map (fun i => (i.zero, i.size, i.bytes)) = some (some (.agg #[.int .i64 0, .string ⟨#[]⟩, .int .i64 0, .int .i64 0]), 4, 40) := by kernel_rfl
theorem info_parts {P : Program} {t : TypeId} {z : Value} {s b : Nat} (h : (P.info? t).map (fun i => (i.zero, i.size, i.bytes)) = some (some z, s, b)) : ∃ i, P.info? t = some i ∧ i.zero = some z ∧ i.size = s ∧ i.bytes = b := by
  cases hp : P.info? t with
  | none => rw [hp] at h; cases h
  | some i => rw [hp] at h; simp only [Option.map_some, Option.some.injEq, Prod.mk.injEq] at h; exact ⟨i, rfl, h.1, h.2.1, h.2.2⟩
section
variable {ops : Array Oper} {rest : List Oper} {o : Oper} {a : Act} {w : World} {Q : Exit → Act → World → Prop}
/-- A token is appended. -/
theorem append_k (hgd : o.guard = none) (s x : Operand) (ho : o.op = .call { callee := .builtin .append, args := #[s, x], argTypes := #[23, 23] })
    (base : Nat) (v : Value) (n : Nat) (l : List TI) (hs : a.eval s = v) (hown : OwnK w base v n l) (g : Nat) (hx : a.eval x = .slice (some ⟨g, 0, none⟩) 1 1) (t : TI) (hr : w.rangeAt g 0 t.cells)
    (hn : n ≤ 1099511627776) (hbase : base ≤ w.heap.size)
    (h : ∀ v' w', OwnK w' base v' (n + 1) (l ++ [t]) → Below base w w' → w.grownBy w' v.ownBlock → wpList Tryd.prog ops Q rest (a.put o.dst v') w') : wpList Tryd.prog ops Q (o :: rest) a w := by
  obtain ⟨i, hi, hz, hsz, hby⟩ := info_parts tok_info
  refine wpList_append_own _ hgd s x _ ho base 36 i _ 4 40 Tryd.underlying23 hi hz hsz hby rfl (by decide) v n _ hs hown.own ⟨g, 0, none⟩ 1 1 t.cells hx rfl (fun j u hu => ?_) (fun u hu => cellsK_onecell [t] u (by rw [cellsK_one]; exact hu)) (by unfold maxLen; omega) (by omega) hbase ?_
  · rw [Addr.add_mid]
    exact hr j u hu
  · intro v' w' ho' hg _
    refine h v' w' ⟨by rw [cellsK_append, cellsK_one]; exact ho'⟩ ((Below.refl _ _).grown hg hbase (fun p hp => (hown.own.lt p hp).1)) hg
end
theorem ba_app (a b : List UInt8) : (⟨a.toArray⟩ : ByteArray) ++ ⟨b.toArray⟩ = ⟨(a ++ b).toArray⟩ := by
  apply ByteArray.ext
  rw [ByteArray.data_append]
  simp
theorem ba_two (a x : List UInt8) : (⟨a.toArray⟩ : ByteArray) ++ ⟨#[32]⟩ ++ ⟨x.toArray⟩ = ⟨(a ++ 32 :: x).toArray⟩ := by
  rw [show (⟨#[32]⟩ : ByteArray) = ⟨[(32 : UInt8)].toArray⟩ from rfl, ba_app, ba_app, List.append_assoc]
  rfl
theorem ba_nil (x : List UInt8) : (⟨#[]⟩ : ByteArray) ++ ⟨x.toArray⟩ = ⟨x.toArray⟩ := ba_app [] x
theorem lies_tok {W : World} {B : Nat} {A : Option Addr} {n c : Nat} {l : List TI} (h : Lies W B 4 A n c (cellsK l)) {j : Nat} {t : TI} (ht : l[j]? = some t) : ∃ b o, A = some ⟨b, o, none⟩ ∧ b < B ∧ ∀ (i : Nat) (u : Value), t.cells[i]? = some u → W.cell? ⟨b, o + (j * 4 + i), none⟩ = some u := by
  have hj : j < l.length := (List.getElem?_eq_some_iff.1 ht).1
  have hl := h.len
  rw [cellsK_length] at hl
  obtain ⟨b, o, e, hb, hc⟩ := h.cells (by omega)
  exact ⟨b, o, e, hb, fun i u hu => hc _ u (cellsK_at ht hu)⟩
theorem lies_len {W : World} {B : Nat} {A : Option Addr} {n c : Nat} {l : List TI} (h : Lies W B 4 A n c (cellsK l)) : l.length = n := by
  have := h.len
  rw [cellsK_length] at this
  omega
end Lx
end Go.Proofs.YtjijlepkcghmeaaDoor
