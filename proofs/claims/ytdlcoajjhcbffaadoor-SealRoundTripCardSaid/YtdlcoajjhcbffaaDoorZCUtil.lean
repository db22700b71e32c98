/- Small words that the walks over package cipher share. No condition but lengths. -/
import Derived.Test.YtdlcoajjhcbffaaDoorZCXorC
import Derived.ChangeKeysEq
import Derived.Deep.RegionHeld3
namespace Go.Proofs.YtdlcoajjhcbffaaDoor
open Go.RowKit
namespace Cha
theorem byte_info : (Tryd.prog.info? 5).map (fun i => (i.zero, i.size, i.bytes)) = some (some (.int .u8 0), 1, 1) := by kernel_rfl
theorem part16 (xs : List Nat) (hl : xs.length = 16) (W : World) {i : Nat} (hi : i < 16) : (part 38 (xs.map wv).toArray (i * 1)).run Tryd.prog W = .ok (wv (xs.getD i 0)) W := by
  simp [part, isAgg, run_underlying Tryd.underlying38, List.getD, hl, hi]
theorem items16 (xs : List Nat) (hl : xs.length = 16) (W : World) : ∀ is : List Nat, (∀ i ∈ is, i < 16) → (Op.eqItems 9999 38 1 (xs.map wv).toArray (xs.map wv).toArray is).run Tryd.prog W = .ok true W
  | [], _ => by simp [Op.eqItems]
  | i :: is, h => by
    have e : (Op.equalIn 9999 38 (wv (xs.getD i 0)) (wv (xs.getD i 0))).run Tryd.prog W = .ok true W := by
      unfold wv
      rw [run_equalIn_int W 9998 38 .u32 .u32 _ _ Tryd.underlying38]
      simp
    simp only [Op.eqItems, Sem.run_bind, part16 xs hl W (h i (List.mem_cons_self ..)), e, Result.andThen_ok]
    simpa using items16 xs hl W is (fun j hj => h j (List.mem_cons_of_mem _ hj))
theorem same16 (xs : List Nat) (hl : xs.length = 16) (W : World) : (Op.equalIn 10000 63 (.agg (xs.map wv).toArray) (.agg (xs.map wv).toArray)).run Tryd.prog W = .ok true W := by
  obtain ⟨i, hi⟩ : ∃ i, Tryd.prog.info? 38 = some i := by
    cases h : Tryd.prog.info? 38 with
    | none => exact absurd h (by have : (Tryd.prog.info? 38).isSome = true := by kernel_rfl
                                 intro h2; rw [h2] at this; cases this)
    | some i => exact ⟨i, rfl⟩
  rw [run_equalIn_array W 9999 _ _ und16 hi, show Tryd.prog.cellsOf 38 = 1 by kernel_rfl]
  exact items16 xs hl W _ (fun i hi => List.mem_range.1 hi)
theorem one_cell (x : UInt8) : ∀ u ∈ [bv x], u.oneCell' = true := by
  intro u hu; simp at hu; subst hu; rfl
theorem fresh_one (w : World) (x : Value) (t : TypeId) : ∀ (j : Nat) (u : Value), [x][j]? = some u → (w.alloc (.cells #[x] t)).cell? ((⟨w.heap.size, 0, none⟩ : Addr).add j) = some u := by
  intro j u h
  cases j with
  | zero =>
    simp at h; subst h
    simp [Addr.add]
  | succ j => simp at h
theorem own_form {w : World} {base : Nat} {e : TypeId} {size n : Nat} {v : Value} {xs : List Value} (h : w.ownsRow base e size v n xs) (hn : 0 < n) :
    ∃ g cap, v = .slice (some ⟨g, 0, none⟩) n cap ∧ base ≤ g ∧ g < w.heap.size ∧ n ≤ cap ∧ cap ≤ maxLen := by
  rcases h.2 with ⟨_, h0⟩ | ⟨g, cap, cur, rfl, hb, hg, hc, hm, _⟩
  · omega
  · exact ⟨g, cap, rfl, hb, (Array.getElem?_eq_some_iff.1 hg).1, hc, hm⟩
theorem convO {w : World} {base g n c : Nat} {l : List UInt8} (h : w.ownsRow base 5 1 (.slice (some ⟨g, 0, none⟩) n c) n (l.map bv)) (hn : l.length = n) :
    (convert 47 9 (.slice (some ⟨g, 0, none⟩) n c)).run Tryd.prog w = .ok (.string ⟨l.toArray⟩) w := by
  have := run_convert_bytes_arg (P := Tryd.prog) (w := w) 47 5 Tryd.underlying47 Tryd.underlying5 g 0 n c (l.map fun c => (c.toNat : Int)) (by simpa using hn) ?_ 9 Tryd.underlying9
  · rw [this, strOf]; rfl
  · intro i hi
    have hx : l[i]? = some (l[i]'(by omega)) := List.getElem?_eq_getElem _
    rw [Nat.zero_add, h.cellAt i (by omega), List.getElem?_map, hx]
    simp [List.getD, hx, bv]
def Yes (w : World) (e : Ending) (w' : World) : Prop := e = .returned (.bool true) ∧ Below w.heap.size w w'
theorem sameS (a : List UInt8) (W : World) : (Op.equalIn 10000 9 (.string ⟨a.toArray⟩) (.string ⟨a.toArray⟩)).run Tryd.prog W = .ok true W := by
  rw [run_equalIn_string W 9999 9 _ _ Tryd.underlying9]
  simp
theorem drop_from (x y : List UInt8) (k : Nat) (hk : k ≤ x.length) (h : x.drop k = y) (W : World) : (Instr.slice 9 (.string ⟨x.toArray⟩) (some (.int .i64 (k : Int))) none none).run Tryd.prog W = .ok (.string ⟨y.toArray⟩) W := by
  rw [← h]; exact slice_from x k hk W
theorem take_to (x y : List UInt8) (k : Nat) (hk : k ≤ x.length) (h : x.take k = y) (W : World) : (Instr.slice 9 (.string ⟨x.toArray⟩) none (some (.int .i64 (k : Int))) none).run Tryd.prog W = .ok (.string ⟨y.toArray⟩) W := by
  have h1 := run_slice_string_to_if (P := Tryd.prog) W 9 ⟨x.toArray⟩ .i64 (k : Int) Tryd.underlying9
  have hs := sizeS x
  rw [h1, ← h]
  simp [hs, hk]
  apply ByteArray.ext
  rw [ByteArray.data_extract]
  apply Array.toList_inj.1
  rw [Array.toList_extract, List.extract_eq_take_drop]
  simp
theorem HasS.on {w W W2 : World} {g : Nat} {l : List Nat} (h : HasS w W g l) (hb : Below W.heap.size W W2) : HasS w W2 g l := ⟨h.arr.below hb (h.arr.size (by omega)), bcj h.below hb⟩
theorem HasS.drew {w W : World} {g : Nat} {l : List Nat} (h : HasS w W g l) : HasS w W.drew g l := ⟨h.arr.drew 1, h.below.drew⟩
/-- The state lies in block g, the state after the rounds in block k. -/
structure LawS (w W : World) (g k : Nat) (l r : List Nat) : Prop where
  st : Arr W g 16 (l.map wv)
  rd : Arr W k 16 (r.map wv)
  below : Below w.heap.size w W
theorem LawS.on {w W W2 : World} {g k : Nat} {l r : List Nat} (h : LawS w W g k l r) (hb : Below W.heap.size W W2) : LawS w W2 g k l r :=
  ⟨h.st.below hb (h.st.size (by omega)), h.rd.below hb (h.rd.size (by omega)), bcj h.below hb⟩
theorem LawS.drew {w W : World} {g k : Nat} {l r : List Nat} (h : LawS w W g k l r) : LawS w W.drew g k l r := ⟨h.st.drew 1, h.rd.drew 1, h.below.drew⟩
theorem lawS_new {w W : World} {g : Nat} {l : List Nat} (h : HasS w W g l) (r : List Nat) (hr : r.length = 16) (t : TypeId) : LawS w ((W.alloc (.cells z16 t)).setCells W.heap.size 0 (r.map wv).toArray.toList) g W.heap.size l r := by
  have hn := hasS_new (w := W) (Below.refl _ _) r hr t
  exact ⟨h.arr.below hn.below (h.arr.size (by omega)), hn.arr, bcj h.below hn.below⟩
theorem hasS_box (w : World) (l : List Nat) (hl : l.length = 16) (t : TypeId) : HasS w (w.alloc (.cells (l.map wv).toArray t)) w.heap.size l := by
  have h := arr_new w (l.map wv).toArray t
  rw [show (l.map wv).toArray.size = 16 by rw [List.size_toArray, List.length_map]; exact hl] at h
  exact ⟨h, (Below.refl _ _).alloc (Nat.le_refl _) _⟩

end Cha
end Go.Proofs.YtdlcoajjhcbffaaDoor
