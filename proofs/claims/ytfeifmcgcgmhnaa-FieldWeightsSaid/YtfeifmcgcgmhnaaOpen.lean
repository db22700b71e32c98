/- Slices of bytes, integers and strings that came in, opened: they read as lists. No condition. -/
import Derived.Test.YtfeifmcgcgmhnaaOpenR
import Derived.SliceStrings
import Derived.OpenShut
namespace Go.Proofs.Ytfeifmcgcgmhnaa
open Go.RowKit Go.ChangeShapes Go.WideShapes
namespace Wire

section
variable {H : Type} {enc : TypeId × Value → H} {W : World} {base : Nat}

theorem opened_bytes {t : TypeId} (ht : Try.prog.underlying t = some (.slice 5)) {v : Value} (hval : Value.okWide Try.prog W .any base t v) {d : DataW H} {ps : List MemPlace} (hd : DataW.Trod enc Try.prog W 0 (fun _ => true) true t v d ps) :
    ∃ (A : Option Addr) (n c : Nat) (l : List UInt8), v = .slice A n c ∧ Lies W W.heap.size 1 A n c (l.map bv) := by
  obtain ⟨A, n, c, rfl⟩ := okWide_slice ht hval
  obtain ⟨fuel, hf⟩ := hd
  rcases open_ints ht Try.underlying5 (by kernel_rfl) hf with ⟨hcs, _⟩ | ⟨x, l, c, zs, hcs, _, hl, hm, hz, _, hcell, hwz⟩
  · simp [Value.cells] at hcs
    obtain ⟨rfl, rfl, rfl⟩ := hcs
    exact ⟨none, 0, 0, [], rfl, lies_empty W _ none⟩
  · simp [Value.cells] at hcs
    obtain ⟨rfl, rfl, rfl⟩ := hcs
    obtain ⟨bs, hb⟩ := row_bytes (w := W) (.inr ⟨x, rfl, hl, hm, by simpa using hz, hcell, hwz⟩)
    exact ⟨_, _, _, bs, rfl, hb⟩
theorem opened_strings {t : TypeId} (ht : Try.prog.underlying t = some (.slice 9)) {v : Value} (hval : Value.okWide Try.prog W .any base t v) {d : DataW H} {ps : List MemPlace} (hd : DataW.Trod enc Try.prog W 0 (fun _ => true) true t v d ps) :
    ∃ (A : Option Addr) (n c : Nat) (l : List (List UInt8)), v = .slice A n c ∧ Lies W W.heap.size 1 A n c (l.map sv) ∧ ∀ s ∈ l, s.length ≤ maxLen := by
  obtain ⟨A, n, c, rfl⟩ := okWide_slice ht hval
  obtain ⟨fuel, hf⟩ := hd
  rcases open_strings ht Try.underlying9 (by kernel_rfl) hf with ⟨hcs, _⟩ | ⟨x, l, c, ss, hcs, _, hl, hm, hz, _, hcell, hwz⟩
  · simp [Value.cells] at hcs
    obtain ⟨rfl, rfl, rfl⟩ := hcs
    exact ⟨none, 0, 0, [], rfl, ⟨rfl, Nat.le_refl _, by unfold maxLen; omega, fun h => absurd h (by omega), fun h => absurd h (by omega)⟩, by simp⟩
  · simp [Value.cells] at hcs
    obtain ⟨rfl, rfl, rfl⟩ := hcs
    have hz2 : ss.length = c := by simpa using hz
    refine ⟨_, _, _, (ss.take n).map fun s => s.data.toList, rfl, row_at (by simp; omega) hl hm (fun i hi => ?_) (fun i u hu => ?_), fun s hs => ?_⟩
    · rw [hcell i (by omega)]; rfl
    · rw [List.map_map, List.getElem?_map] at hu
      have hi : i < n := by
        rcases Nat.lt_or_ge i n with h | h
        · exact h
        · rw [List.getElem?_eq_none (by simp; omega)] at hu; cases hu
      rw [List.getElem?_take_of_lt hi, List.getElem?_eq_getElem (show i < ss.length by omega)] at hu
      simp only [Option.map_some, Option.some.injEq, Function.comp_apply] at hu
      rw [hcell i (by omega), ← hu, List.getD_eq_getElem?_getD, List.getElem?_eq_getElem (show i < ss.length by omega)]
      rfl
    · obtain ⟨s', hs', rfl⟩ := List.mem_map.1 hs
      exact hwz s' (List.mem_of_mem_take hs')
theorem opened_ints {t : TypeId} (ht : Try.prog.underlying t = some (.slice 3)) {v : Value} (hval : Value.okWide Try.prog W .any base t v) {d : DataW H} {ps : List MemPlace} (hd : DataW.Trod enc Try.prog W 0 (fun _ => true) true t v d ps) :
    ∃ (A : Option Addr) (n c : Nat) (l : List Int), v = .slice A n c ∧ Lies W W.heap.size 1 A n c (l.map (Value.int .i64)) ∧ ∀ x ∈ l, (Lit.int .i64 x).wf = true := by
  obtain ⟨A, n, c, rfl⟩ := okWide_slice ht hval
  obtain ⟨fuel, hf⟩ := hd
  rcases open_ints ht Try.underlying3 (by kernel_rfl) hf with ⟨hcs, _⟩ | ⟨x, l, c, zs, hcs, _, hl, hm, hz, _, hcell, hwz⟩
  · simp [Value.cells] at hcs
    obtain ⟨rfl, rfl, rfl⟩ := hcs
    exact ⟨none, 0, 0, [], rfl, ⟨rfl, Nat.le_refl _, by unfold maxLen; omega, fun h => absurd h (by omega), fun h => absurd h (by omega)⟩, by simp⟩
  · simp [Value.cells] at hcs
    obtain ⟨rfl, rfl, rfl⟩ := hcs
    have hz2 : zs.length = c := by simpa using hz
    refine ⟨_, _, _, zs.take n, rfl, row_at (by simp; omega) hl hm (fun i hi => ?_) (fun i u hu => ?_), fun s hs => hwz s (List.mem_of_mem_take hs)⟩
    · rw [hcell i (by omega)]; rfl
    · rw [List.getElem?_map] at hu
      have hi : i < n := by
        rcases Nat.lt_or_ge i n with h | h
        · exact h
        · rw [List.getElem?_eq_none (by simp; omega)] at hu; cases hu
      rw [List.getElem?_take_of_lt hi, List.getElem?_eq_getElem (show i < zs.length by omega)] at hu
      simp only [Option.map_some, Option.some.injEq] at hu
      rw [hcell i (by omega), ← hu, List.getD_eq_getElem?_getD, List.getElem?_eq_getElem (show i < zs.length by omega)]
      rfl

end
end Wire
end Go.Proofs.Ytfeifmcgcgmhnaa
