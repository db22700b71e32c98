/- Slices of bytes that are appended, cut, and read. No condition. -/
import Derived.Test.YtfeifmcgcgmhnaaFSane
namespace Go.Proofs.Ytfeifmcgcgmhnaa
open Go.RowKit
namespace Gf
open Wire (bv Lies own_below lies_own bytes_one)

theorem lies_news {w : World} {B n c : Nat} {a : Addr} {bs : List UInt8} (h : Lies w B 1 (some a) n c (bs.map bv)) (j : Nat) (u : Value) (hu : (bs.map bv)[j]? = some u) : w.cell? (a.add j) = some u := by
  have hl : j < (bs.map bv).length := (List.getElem?_eq_some_iff.1 hu).1
  have hn := h.len
  obtain ⟨b, o, e, _, hc⟩ := h.cells (by omega)
  simp only [Option.some.injEq] at e
  subst e
  rw [Addr.add_mid]
  exact hc j u hu
theorem run_append_none {P : Program} (w : World) (t ty e : TypeId) (i : TypeInfo) (ht : P.underlying t = some (.slice e)) (hi : P.info? e = some i) (b : Addr) (n k : Nat) (hk : n ≤ k) (A : Option Addr) (c : Nat) :
    (Builtin.append_ #[t, t] ty #[.slice (some b) n k, .slice A 0 c]).run P w = .ok (.slice (some b) n k) w := by
  cases A with
  | none => simp [Builtin.append_, run_underlying ht, sizeOf, typeInfo, hi, Builtin.lenOf, Builtin.firstCells, storeCells, hk]
  | some a => simp [Builtin.append_, run_underlying ht, sizeOf, typeInfo, hi, Builtin.lenOf, Builtin.firstCells, loadCells, loadCellsFrom, storeCells, hk]

/-- A slice that came in, appended to one that is there. -/
theorem wpList_append_lies {w : World} {ops : Array Oper} {rest : List Oper} {o : Oper} {a : Act} {Q : Exit → Act → World → Prop} (hgd : o.guard = none) (s x : Operand)
    (ho : o.op = .call { callee := .builtin .append, args := #[s, x], argTypes := #[30, 30] })
    (base g k cap : Nat) (xs : List UInt8) (hs : a.eval s = .slice (some ⟨g, 0, none⟩) k cap) (hown : w.ownsRow base 5 1 (.slice (some ⟨g, 0, none⟩) k cap) k (xs.map bv))
    (A : Option Addr) (m c : Nat) (ys : List UInt8) (hx2 : a.eval x = .slice A m c)
    (hy : Lies w w.heap.size 1 A m c (ys.map bv)) (hbd : k + m ≤ 140737488355328) (hbase : base ≤ w.heap.size)
    (t : Nat) (ht : k + m = t) (zs : List UInt8) (hzs : xs ++ ys = zs)
    (h : ∀ g' cap' w', w'.ownsRow base 5 1 (.slice (some ⟨g', 0, none⟩) t cap') t (zs.map bv) → Below base w w' → wpList Try.prog ops Q rest (a.put o.dst (.slice (some ⟨g', 0, none⟩) t cap')) w') : wpList Try.prog ops Q (o :: rest) a w := by
  obtain ⟨i, hi, hz, hsz, hby⟩ := info_parts byte_info
  have hly := hy.len
  subst ht hzs
  refine wpList_plain hgd fun K hK => ?_
  have key : ∃ g' c' w', (Builtin.append_ #[30, 30] o.type #[.slice (some ⟨g, 0, none⟩) k cap, .slice A m c]).run Try.prog w = .ok (.slice (some ⟨g', 0, none⟩) (k + m) c') w' ∧ w'.ownsRow base 5 1 (.slice (some ⟨g', 0, none⟩) (k + m) c') (k + m) ((xs ++ ys).map bv) ∧ Below base w w' := by
    rcases Nat.eq_zero_or_pos m with h0 | h0
    · subst h0
      have hn : ys = [] := by simpa using hly
      subst hn
      have hkc : k ≤ cap := by
        rcases hown.2 with ⟨h1, _⟩ | ⟨g1, cap1, cur, h1, _, _, h2, _⟩
        · cases h1
        · cases h1; exact h2
      exact ⟨g, cap, w, run_append_none w _ _ _ i Try.underlying30 hi _ k cap hkc A c, by simpa using hown, Below.refl _ _⟩
    · obtain ⟨b2, o2, rfl, _, _⟩ := hy.cells h0
      obtain ⟨v', w', hr, ho', hg, _⟩ := run_append_own (P := Try.prog) (w := w) base 30 o.type 5 i (.int .u8 0) 1 1 Try.underlying30 hi hz hsz hby rfl (by decide) _ k (xs.map bv) hown ⟨b2, o2, none⟩ m c (ys.map bv) hly (lies_news hy) (bytes_one _) (by unfold maxLen; omega) (by omega) hbase
      obtain ⟨g', c', rfl, hl⟩ := Wire.own_form ho' (by omega)
      rw [← List.map_append] at ho'
      exact ⟨_, _, _, hr, ho', (Below.refl _ _).grown hg hbase (fun q hq => (hown.lt q hq).1)⟩
  obtain ⟨g', c', w', hr, hl, hb⟩ := key
  unfold Oper.wp execOp
  simp only [ho, resolve, invoke, builtin, Sem.run_bind, Sem.run_pure, Result.andThen_ok, List.map_toArray, List.map_cons, List.map_nil, hs, hx2, hr]
  exact hK _ _ (h g' c' w' hl hb)
/-- A literal of one byte is one's own. -/
theorem own_lit1 (w : World) (x : UInt8) : (w.alloc (.cells #[.int .u8 (x.toNat : Int)] 5)).ownsRow w.heap.size 5 1 (.slice (some ⟨w.heap.size, 0, none⟩) 1 1) 1 ([x].map bv) :=
  ⟨rfl, .inr ⟨w.heap.size, 0 + 1, #[.int .u8 (x.toNat : Int)], rfl, Nat.le_refl _, heap_alloc_new w _, Nat.le_refl _, by unfold maxLen; omega, rfl, rfl⟩⟩
/-- A slice of one's own reads as its list, nil let in. -/
theorem own_lies {w : World} {base n : Nat} {v : Value} {l : List UInt8} (h : w.ownsRow base 5 1 v n (l.map bv)) : ∃ A c, v = .slice A n c ∧ Lies w w.heap.size 1 A n c (l.map bv) := by
  rcases h.2 with ⟨rfl, rfl⟩ | ⟨g, cap, cur, rfl, _⟩
  · obtain rfl : l = [] := by have := h.1; simpa using this
    exact ⟨none, 0, rfl, Wire.lies_empty _ _ _⟩
  · exact ⟨_, _, rfl, lies_own h⟩
theorem lies_take {w : World} {B n c : Nat} {A : Option Addr} {l : List UInt8} (h : Lies w B 1 A n c (l.map bv)) {k : Nat} (hk : k ≤ n) : Lies w B 1 A k c ((l.take k).map bv) := by
  have hlen : l.length = n := by have := h.len; simpa using this
  refine ⟨by simp; omega, by have := h.le; omega, h.most, h.some_, fun hp => ?_⟩
  obtain ⟨b, o, e, hb, hc⟩ := h.cells (by omega)
  refine ⟨b, o, e, hb, fun j u hu => hc j u ?_⟩
  rw [List.map_take, List.getElem?_take] at hu
  split at hu
  · exact hu
  · cases hu
end Gf
end Go.Proofs.Ytfeifmcgcgmhnaa
