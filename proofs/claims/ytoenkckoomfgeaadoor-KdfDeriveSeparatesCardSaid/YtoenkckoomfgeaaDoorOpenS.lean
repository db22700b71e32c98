/- Slices of texts that came in, opened; how long slices and texts are, by the reach and by the bulk of what was read. No condition. -/
import Derived.Test.YtoenkckoomfgeaaDoorOpenR
import Derived.SliceStrings
import Derived.OpenShut
import Derived.Test.YtoenkckoomfgeaaDoorWUtil
import Derived.Test.YtoenkckoomfgeaaDoorRows
import Derived.SizedLaws
namespace Go.Proofs.YtoenkckoomfgeaaDoor
open Go.RowKit Go.ChangeShapes Go.WideShapes
namespace Wire

section
variable {H : Type} {enc : TypeId × Value → H} {W : World} {base : Nat}

/-- What a slice reads as. -/
theorem slice_data {t e : TypeId} (ht : Tryd.prog.underlying t = some (.slice e)) {A : Option Addr} {n c : Nat} {d : DataW H} {ps : List MemPlace} (hd : DataW.Trod enc Tryd.prog W 0 (fun _ => true) true t (.slice A n c) d ps) :
    (d = .nil ∧ n = 0) ∨ ∃ elems spare, d = .slice elems spare ∧ elems.length = n := by
  obtain ⟨fuel, hf⟩ := hd
  rcases DataW.trod_slice ht hf with ⟨hcs, hx⟩ | ⟨a, len, cap, elems, rest, m, _, hcs, hx, _, _, _, hlen, _⟩
  · simp [Value.cells] at hcs
    obtain ⟨rfl, rfl, rfl⟩ := hcs
    exact .inl ⟨congrArg Prod.fst hx, rfl⟩
  · simp [Value.cells] at hcs
    obtain ⟨rfl, rfl, rfl⟩ := hcs
    exact .inr ⟨_, _, congrArg Prod.fst hx, by simpa using hlen⟩

theorem sized_len {ts : List TypeId} {ds : List (DataW H)} (hsz : (DataW.weightsEach Tryd.prog ts ds).all (· ≤ reachBytes) = true) {j : Nat} {t e : TypeId} {A : Option Addr} {n c : Nat} {d : DataW H} {ps : List MemPlace} (h1 : ts[j]? = some t) (h2 : ds[j]? = some d)
    (ht : Tryd.prog.underlying t = some (.slice e)) (hb : 1 ≤ Tryd.prog.bytesOf e) (hd : DataW.Trod enc Tryd.prog W 0 (fun _ => true) true t (.slice A n c) d ps) : n ≤ 140737488355328 := by
  rcases slice_data ht hd with ⟨_, rfl⟩ | ⟨elems, spare, rfl, rfl⟩
  · omega
  · have h := sized_slice hsz h1 h2 ht
    have h3 := reachBytes_lt
    have h4 : (elems.length + spare.length) * 1 ≤ (elems.length + spare.length) * Tryd.prog.bytesOf e := Nat.mul_le_mul_left _ hb
    omega

/-- A slice of texts that came in, with what it reads as. -/
theorem opened_texts {t : TypeId} (ht : Tryd.prog.underlying t = some (.slice 9)) {v : Value} (hval : Value.okWide Tryd.prog W .any base t v) {d : DataW H} {ps : List MemPlace} (hd : DataW.Trod enc Tryd.prog W 0 (fun _ => true) true t v d ps) :
    ∃ (A : Option Addr) (n c : Nat) (l : List (List UInt8)), v = .slice A n c ∧ Lies W W.heap.size 1 A n c (l.map sv) ∧ ((d = .nil ∧ l = []) ∨ ∃ spare, d = .slice (l.map fun x => .lit (.string x)) spare) := by
  obtain ⟨A, n, c, rfl⟩ := okWide_slice ht hval
  obtain ⟨fuel, hf⟩ := hd
  rcases open_strings ht Tryd.underlying9 (by kernel_rfl) hf with ⟨hcs, hx⟩ | ⟨x, len, cap, ss, hcs, _, hl, hm, hz, hx, hcell, hwz⟩
  · simp [Value.cells] at hcs
    obtain ⟨rfl, rfl, rfl⟩ := hcs
    exact ⟨none, 0, 0, [], rfl, ⟨rfl, Nat.le_refl _, by unfold maxLen; omega, fun h => absurd h (by omega), fun h => absurd h (by omega)⟩, .inl ⟨congrArg Prod.fst hx, rfl⟩⟩
  · simp [Value.cells] at hcs
    obtain ⟨rfl, rfl, rfl⟩ := hcs
    have hz2 : ss.length = c := by simpa using hz
    refine ⟨_, _, _, (ss.take n).map fun s => s.data.toList, rfl, row_at (by simp; omega) hl hm (fun i hi => ?_) (fun i u hu => ?_), .inr ⟨strs (ss.drop n), ?_⟩⟩
    · rw [hcell i (by omega)]; rfl
    · rw [List.map_map, List.getElem?_map] at hu
      have hi : i < n := by
        rcases Nat.lt_or_ge i n with h | h
        · exact h
        · rw [List.getElem?_eq_none (by simp; omega)] at hu; cases hu
      rw [List.getElem?_take_of_lt hi, List.getElem?_eq_getElem (show i < ss.length by omega)] at hu
      simp only [Option.map_some, Option.some.injEq, Function.comp_apply] at hu
      rw [hcell i (by omega), ← hu, List.getD_eq_getElem?_getD, List.getElem?_eq_getElem (show i < ss.length by omega)]
      rfl
    · rw [List.map_map]; exact congrArg Prod.fst hx

theorem weights_text (P : Program) (e : TypeId) : ∀ (l : List (List UInt8)) (x : List UInt8), x ∈ l → x.length ∈ DataW.weightsAll (H := H) P e (l.map fun x => .lit (.string x))
  | y :: l, x, h => by
    simp only [List.map_cons, DataW.weightsAll, List.mem_append]
    rcases List.mem_cons.1 h with rfl | h
    · exact .inl (by simp [DataW.weights])
    · exact .inr (weights_text P e l x h)

theorem sized_texts {ts : List TypeId} {ds : List (DataW H)} (hsz : (DataW.weightsEach Tryd.prog ts ds).all (· ≤ reachBytes) = true) {j : Nat} {t : TypeId} {d : DataW H} {l : List (List UInt8)} (h1 : ts[j]? = some t) (h2 : ds[j]? = some d)
    (ht : Tryd.prog.underlying t = some (.slice 9)) (hd : (d = .nil ∧ l = []) ∨ ∃ spare, d = .slice (l.map fun x => .lit (.string x)) spare) : ∀ x ∈ l, x.length ≤ 140737488355328 := by
  intro x hx
  rcases hd with ⟨_, rfl⟩ | ⟨spare, rfl⟩
  · cases hx
  · have h := List.all_eq_true.1 hsz _ (DataW.weights_mem_each h1 h2 x.length (by simp only [DataW.weights, ht, List.mem_cons, List.mem_append]; exact .inr (.inl (weights_text _ _ l x hx))))
    have h3 := reachBytes_lt
    have h4 : x.length ≤ reachBytes := by simpa using h
    omega

/-- What came in is of at most so many values and letters. -/
theorem bulk_text : ∀ l : List (List UInt8), Rows.uptoBulkAll (H := H) (l.map fun x => .lit (.string x)) = l.length + total l
  | [] => rfl
  | x :: l => by
    have h := bulk_text l
    have e : total (x :: l) = x.length + total l := rfl
    simp only [List.map_cons, Rows.uptoBulkAll, Rows.uptoBulk, h, List.length_cons, e]
    omega
theorem bulk_one (d : DataW H) : 1 ≤ Rows.uptoBulk d := by
  cases d with
  | lit l => cases l <;> simp [Rows.uptoBulk]
  | nil => simp [Rows.uptoBulk]
  | ptr d => simp [Rows.uptoBulk]
  | slice a b => simp [Rows.uptoBulk]
  | agg a => simp [Rows.uptoBulk]
  | iface t d => simp [Rows.uptoBulk]
  | map a => simp [Rows.uptoBulk]
  | held a => simp [Rows.uptoBulk]
theorem bulk_length : ∀ l : List (DataW H), l.length ≤ Rows.uptoBulkAll l
  | [] => by simp
  | d :: l => by
    have h1 := bulk_length l
    have h2 := bulk_one d
    simp only [List.length_cons, Rows.uptoBulkAll]
    omega
theorem bulk_len {t e : TypeId} (ht : Tryd.prog.underlying t = some (.slice e)) {A : Option Addr} {n c : Nat} {d : DataW H} {ps : List MemPlace} (hd : DataW.Trod enc Tryd.prog W 0 (fun _ => true) true t (.slice A n c) d ps) : n ≤ Rows.uptoBulk d := by
  rcases slice_data ht hd with ⟨_, rfl⟩ | ⟨elems, spare, rfl, rfl⟩
  · omega
  · have := bulk_length elems
    simp only [Rows.uptoBulk]
    omega
theorem bulk_texts {d : DataW H} {l : List (List UInt8)} (hd : (d = .nil ∧ l = []) ∨ ∃ spare, d = .slice (l.map fun x => .lit (.string x)) spare) : l.length + total l ≤ Rows.uptoBulk d := by
  rcases hd with ⟨_, rfl⟩ | ⟨spare, rfl⟩
  · simp [total]
  · simp only [Rows.uptoBulk, bulk_text]
    omega
end
end Wire
end Go.Proofs.YtoenkckoomfgeaaDoor
