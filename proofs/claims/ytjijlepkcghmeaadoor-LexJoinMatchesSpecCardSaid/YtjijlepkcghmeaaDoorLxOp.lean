/- A slice of tokens that came in, opened. No condition. -/
import Derived.Test.YtjijlepkcghmeaaDoorLxM
import Derived.Test.YtjijlepkcghmeaaDoorOpenR
import Derived.OpenShut
import Derived.DataReads
import Derived.ChangeSame
namespace Go.Proofs.YtjijlepkcghmeaaDoor
open Go.RowKit Go.ChangeShapes Go.WideShapes
namespace Lx
open Wire (bv Lies)
set_option maxRecDepth 100000
set_option linter.constructorNameAsVariable false

section
variable {H : Type} {enc : TypeId × Value → H} {W : World} {base : Nat}
theorem tok_read {fuel : Nat} {cs : List Value} {x : DataW H × List MemPlace} (h : DataW.trod enc Tryd.prog W 0 (fun _ => true) true fuel 36 cs = some x) : ∃ t : TI, cs = t.cells := by
  obtain ⟨xs, m, _, _, hl, hxl, hi⟩ := DataW.trod_struct Tryd.underlying36 h
  have c4 : Tryd.prog.cellsOf 36 = 4 := by kernel_rfl
  have c1 : Tryd.prog.cellsOf 3 = 1 := by kernel_rfl
  have cs1 : Tryd.prog.cellsOf 9 = 1 := by kernel_rfl
  rw [c4] at hl
  have hx4 : xs.length = 4 := hxl
  obtain ⟨a, b, c, d, rfl⟩ : ∃ a b c d, cs = [a, b, c, d] := by
    match cs, hl with
    | [a, b, c, d], _ => exact ⟨a, b, c, d, rfl⟩
  have h0 : DataW.trod enc Tryd.prog W 0 (fun _ => true) true m 3 (([a, b, c, d].drop 0).take (Tryd.prog.cellsOf 3)) = xs[0]? := hi 0 _ rfl
  have h1 : DataW.trod enc Tryd.prog W 0 (fun _ => true) true m 9 (([a, b, c, d].drop 1).take (Tryd.prog.cellsOf 9)) = xs[1]? := hi 1 _ rfl
  have h2 : DataW.trod enc Tryd.prog W 0 (fun _ => true) true m 3 (([a, b, c, d].drop 2).take (Tryd.prog.cellsOf 3)) = xs[2]? := hi 2 _ rfl
  have h3 : DataW.trod enc Tryd.prog W 0 (fun _ => true) true m 3 (([a, b, c, d].drop 3).take (Tryd.prog.cellsOf 3)) = xs[3]? := hi 3 _ rfl
  rw [c1] at h0 h2 h3
  rw [cs1] at h1
  obtain ⟨z0, e0, _, _⟩ := DataW.trod_int Tryd.underlying3 (h0.trans (List.getElem?_eq_getElem (by omega)))
  obtain ⟨s1, e1, _, _⟩ := DataW.trod_string Tryd.underlying9 (h1.trans (List.getElem?_eq_getElem (by omega)))
  obtain ⟨z2, e2, _, _⟩ := DataW.trod_int Tryd.underlying3 (h2.trans (List.getElem?_eq_getElem (by omega)))
  obtain ⟨z3, e3, _, _⟩ := DataW.trod_int Tryd.underlying3 (h3.trans (List.getElem?_eq_getElem (by omega)))
  simp only [List.drop_zero, List.drop_succ_cons, List.take_succ_cons, List.take_zero, List.cons.injEq, and_true] at e0 e1 e2 e3
  refine ⟨⟨z0, s1.data.toList, z2, z3⟩, ?_⟩
  rw [e0, e1, e2, e3]
  rfl
theorem toks_read {fuel : Nat} {t : TypeId} (ht : Tryd.prog.underlying t = some (.slice 36)) {vs : List Value} {x : DataW H × List MemPlace} (hf : DataW.trod enc Tryd.prog W 0 (fun _ => true) true fuel t vs = some x) :
    ∃ (A : Option Addr) (n c : Nat) (l : List TI), vs = [.slice A n c] ∧ Lies W W.heap.size 4 A n c (cellsK l) := by
  have hc4 : Tryd.prog.cellsOf 36 = 4 := by kernel_rfl
  rcases DataW.trod_slice ht hf with ⟨hcs, _⟩ | ⟨a, len, cap, elems, rest, m, _, hcs, hx, hb, hl, hm, hlen, hel, hsp, _⟩
  · exact ⟨none, 0, 0, [], hcs, rfl, Nat.le_refl _, Nat.zero_le _, fun h => absurd h (Nat.lt_irrefl 0), fun h => absurd h (Nat.lt_irrefl 0)⟩
  · rw [hc4] at hel hsp
    have each : ∀ i, i < cap → ∃ cs : List Value, W.cells? 0 (a.add (i * 4)) 4 = some cs ∧ ∃ t : TI, cs = t.cells := by
      intro i hi
      have h : ∃ y, (W.cells? 0 (a.add (i * 4)) 4).bind (DataW.trod enc Tryd.prog W 0 (fun _ => true) true m 36) = some y := by
        by_cases hin : i < len
        · exact ⟨_, (hel i hin).trans (List.getElem?_eq_getElem (by omega))⟩
        · obtain ⟨hrl, hr⟩ := hsp rfl
          have h2 := hr (i - len) (by omega)
          rw [show len + (i - len) = i by omega] at h2
          exact ⟨_, h2.trans (List.getElem?_eq_getElem (by omega))⟩
      obtain ⟨y, hy⟩ := h
      obtain ⟨cs, h1, h2⟩ := Option.bind_eq_some_iff.1 hy
      exact ⟨cs, h1, tok_read h2⟩
    rcases Nat.eq_zero_or_pos cap with h0 | hpos
    · have hn : len = 0 := by omega
      subst h0; subst hn
      exact ⟨_, 0, 0, [], hcs, rfl, Nat.le_refl _, Nat.zero_le _, fun h => absurd h (Nat.lt_irrefl 0), fun h => absurd h (Nat.lt_irrefl 0)⟩
    obtain ⟨b, o, rfl⟩ : ∃ b o, a = ⟨b, o, none⟩ := by
      obtain ⟨cs, h1, t, rfl⟩ := each 0 hpos
      have h4 := (World.cells?_some h1).2.2 0 (by omega)
      rw [show t.cells[0]? = some (.int .i64 t.kind) from rfl] at h4
      obtain ⟨b, o, spot⟩ := a
      have hspot : spot = none := by simpa [Addr.add] using World.cell?_spot h4
      subst hspot
      exact ⟨b, o, rfl⟩
    have hadd : ∀ (b o j : Nat), (⟨b, o, none⟩ : Addr).add j = ⟨b, o + j, none⟩ := fun b o j => by unfold Addr.add; split <;> simp_all
    have hw : ∀ i, i < len → ∃ t : TI, ∀ (j : Nat) (u : Value), t.cells[j]? = some u → W.cell? ⟨b, o + i * 4 + j, none⟩ = some u := by
      intro i hi
      obtain ⟨cs, h1, t, rfl⟩ := each i (by omega)
      refine ⟨t, fun j u hu => ?_⟩
      have hj : j < 4 := (List.getElem?_eq_some_iff.1 hu).1
      have h4 := (World.cells?_some h1).2.2 j hj
      rw [hadd, hadd] at h4
      rw [h4]
      exact hu
    have hlt : b < W.heap.size := by
      obtain ⟨cs, h1, t, rfl⟩ := each 0 hpos
      have h4 := (World.cells?_some h1).2.2 0 (by omega)
      rw [show t.cells[0]? = some (.int .i64 t.kind) from rfl] at h4
      have := World.block_lt_of_cell? W _ h4
      simpa [Addr.add] using this
    obtain ⟨l, hll, hlx⟩ : ∃ l : List TI, l.length = len ∧ ∀ (i : Nat) (t : TI), l[i]? = some t → ∀ (j : Nat) (u : Value), t.cells[j]? = some u → W.cell? ⟨b, o + i * 4 + j, none⟩ = some u := by
      refine ⟨(List.range len).map fun i => if h : i < len then Classical.choose (hw i h) else ⟨0, [], 0, 0⟩, by simp, fun i x hx => ?_⟩
      rw [List.getElem?_map] at hx
      have hin : i < len := by
        rcases Nat.lt_or_ge i len with h | h
        · exact h
        · rw [List.getElem?_eq_none (by simpa using h)] at hx; cases hx
      rw [List.getElem?_range hin] at hx
      simp only [Option.map_some, Option.some.injEq, hin, dif_pos] at hx
      subst hx
      exact Classical.choose_spec (hw i hin)
    refine ⟨_, len, cap, l, hcs, by rw [cellsK_length, hll], hl, hm, fun _ => ⟨b, o, rfl⟩, fun hp => ⟨b, o, rfl, hlt, fun j u hu => ?_⟩⟩
    have hj := (List.getElem?_eq_some_iff.1 hu).1
    rw [cellsK_length, hll] at hj
    have hx : l[j / 4]? = some (l[j / 4]'(by omega)) := List.getElem?_eq_getElem _
    have hjm : j % 4 < (l[j / 4]'(by omega)).cells.length := by show j % 4 < 4; omega
    have hv : (l[j / 4]'(by omega)).cells[j % 4]? = some ((l[j / 4]'(by omega)).cells[j % 4]'hjm) := List.getElem?_eq_getElem hjm
    have h3 := cellsK_at hx hv
    rw [show j / 4 * 4 + j % 4 = j by omega, hu] at h3
    have h4 := hlx _ _ hx _ _ hv
    rw [show o + j / 4 * 4 + j % 4 = o + j by omega] at h4
    rw [h4, Option.some.inj h3]
theorem toks_value {t : TypeId} (ht : Tryd.prog.underlying t = some (.slice 36)) {v : Value} (hval : Value.okWide Tryd.prog W .any base t v) {d : DataW H} {ps : List MemPlace} (hd : DataW.Trod enc Tryd.prog W 0 (fun _ => true) true t v d ps) :
    ∃ (A : Option Addr) (n c : Nat) (l : List TI), v = .slice A n c ∧ Lies W W.heap.size 4 A n c (cellsK l) := by
  obtain ⟨A, n, c, rfl⟩ := okWide_slice ht hval
  obtain ⟨fuel, hf⟩ := hd
  obtain ⟨A', n', c', l, h1, h2⟩ := toks_read ht hf
  simp only [Value.cells, List.cons.injEq, Value.slice.injEq, and_true] at h1
  obtain ⟨rfl, rfl, rfl⟩ := h1
  exact ⟨A, n, c, l, rfl, h2⟩
end
end Lx
end Go.Proofs.YtjijlepkcghmeaaDoor
