/- Appending a slice that came in to a whole slice; the last step of a statement whose call makes memory. No condition. -/
import Derived.Test.YtlpkiaeimcoplaaSane
import Derived.ArgAppend
namespace Go.Proofs.Ytlpkiaeimcoplaa
open Go.RowKit
namespace Wire

theorem run_append_zero {P : Program} (w : World) (t ty e : TypeId) (i : TypeInfo) (ht : P.underlying t = some (.slice e)) (hi : P.info? e = some i) (b : Addr) (n : Nat) (A : Option Addr) (c : Nat) :
    (Builtin.append_ #[t, t] ty #[.slice (some b) n n, .slice A 0 c]).run P w = .ok (.slice (some b) n n) w := by
  cases A with
  | none => simp [Builtin.append_, run_underlying ht, sizeOf, typeInfo, hi, Builtin.lenOf, Builtin.firstCells, storeCells]
  | some a => simp [Builtin.append_, run_underlying ht, sizeOf, typeInfo, hi, Builtin.lenOf, Builtin.firstCells, loadCells, loadCellsFrom, storeCells]

theorem Lies.news {w : World} {B n c : Nat} {a : Addr} {bs : List UInt8} (h : Lies w B 1 (some a) n c (bs.map bv)) (j : Nat) (u : Value) (hu : (bs.map bv)[j]? = some u) : w.cell? (a.add j) = some u := by
  have hl : j < (bs.map bv).length := (List.getElem?_eq_some_iff.1 hu).1
  have hn := h.len
  obtain ⟨b, o, e, _, hc⟩ := h.cells (by omega)
  simp only [Option.some.injEq] at e
  subst e
  rw [Addr.add_mid]
  exact hc j u hu

theorem lies_row {w : World} {base n : Nat} {e : TypeId} {v : Value} {xs : List Value} (h : w.ownsRow base e 1 v n xs) (hn : 0 < n) : ∃ g c, v = .slice (some ⟨g, 0, none⟩) n c ∧ Lies w w.heap.size 1 (some ⟨g, 0, none⟩) n c xs := by
  obtain ⟨g, c, rfl, _⟩ := own_form h hn
  exact ⟨g, c, rfl, lies_own h⟩

theorem wpList_append_tail {w : World} {ops : Array Oper} {rest : List Oper} {o : Oper} {a : Act} {Q : Exit → Act → World → Prop} (hgd : o.guard = none) (s x : Operand)
    (ho : o.op = .call { callee := .builtin .append, args := #[s, x], argTypes := #[28, 28] })
    (b : Addr) (n : Nat) (xs : List UInt8) (hs : a.eval s = .slice (some b) n n) (hx : Lies w w.heap.size 1 (some b) n n (xs.map bv)) (A : Option Addr) (m c : Nat) (ys : List UInt8) (hx2 : a.eval x = .slice A m c)
    (hy : Lies w w.heap.size 1 A m c (ys.map bv)) (hbd : n + m ≤ 140737488355328)
    (h : ∀ A' c' w', Lies w' w'.heap.size 1 A' (n + m) c' ((xs ++ ys).map bv) → Below w.heap.size w w' → wpList Try.prog ops Q rest (a.put o.dst (.slice A' (n + m) c')) w') : wpList Try.prog ops Q (o :: rest) a w := by
  obtain ⟨i, hi, hz, hsz, hby⟩ := info_parts byte_info
  have hlx := hx.len
  have hly := hy.len
  refine wpList_plain hgd fun K hK => ?_
  have key : ∃ A' c' w', (Builtin.append_ #[28, 28] o.type #[.slice (some b) n n, .slice A m c]).run Try.prog w = .ok (.slice A' (n + m) c') w' ∧ Lies w' w'.heap.size 1 A' (n + m) c' ((xs ++ ys).map bv) ∧ Below w.heap.size w w' := by
    rcases Nat.eq_zero_or_pos m with h0 | h0
    · subst h0
      have hn : ys = [] := by simpa using hly
      subst hn
      exact ⟨some b, n, w, run_append_zero w _ _ _ i Try.underlying28 hi b n A c, by simpa using hx, Below.refl _ _⟩
    · obtain ⟨b2, o2, rfl, _, _⟩ := hy.cells h0
      obtain ⟨v', w', hr, ho', hg⟩ := run_append_arg_grows (P := Try.prog) w 28 o.type 5 i (.int .u8 0) 1 1 Try.underlying28 hi hz hsz hby rfl (by decide) b n n (xs.map bv) hlx hx.news ⟨b2, o2, none⟩ m c (ys.map bv) hly hy.news (by omega) (by unfold maxLen; omega) (by omega)
      obtain ⟨g', c', rfl, hl⟩ := lies_row ho' (by omega)
      rw [← List.map_append] at hl
      exact ⟨_, _, _, hr, hl, (Below.refl _ _).grown hg (Nat.le_refl _) (by simp)⟩
  obtain ⟨A', c', w', hr, hl, hb⟩ := key
  unfold Oper.wp execOp
  simp only [ho, resolve, invoke, builtin, Sem.run_bind, Sem.run_pure, Result.andThen_ok, List.map_toArray, List.map_cons, List.map_nil, hs, hx2, hr]
  exact hK _ _ (h A' c' w' hl hb)

theorem Lies.fits {w : World} {B g n c : Nat} {xs : List Value} (h : Lies w B 1 (some ⟨g, 0, none⟩) n c xs) : Lies w B 1 (some ⟨g, 0, none⟩) n n xs :=
  ⟨h.len, Nat.le_refl _, Nat.le_trans h.le h.most, fun _ => ⟨_, _, rfl⟩, h.cells⟩

end Wire
end Go.Proofs.Ytlpkiaeimcoplaa
