/- DigO; OpenR; MOpen; MOpH; MLaid: what each of these parts proves stands ahead of it. -/
import Derived.Test.YthpkeaafgabjiaaDoorM8
import Derived.OpenShut
import Derived.DataReads
import Derived.ChangeSame
import Derived.Test.YthpkeaafgabjiaaDoorZRow
import Derived.SliceStrings
import Derived.Test.YthpkeaafgabjiaaDoorM17
import Derived.Test.YthpkeaafgabjiaaDoorRows
import Derived.LaidMore
import Derived.ProofKit
/- A digest that came in, opened. No condition. -/
namespace Go.Proofs.YthpkeaafgabjiaaDoor
open Go.RowKit Go.ChangeShapes Go.WideShapes
namespace Mk
open Wire (bv Lies)
set_option maxRecDepth 100000
set_option linter.constructorNameAsVariable false

/-- The byte in a value that is one. -/
def byteOf (v : Value) : UInt8 := match v with | .int _ z => UInt8.ofNat z.toNat | _ => 0
theorem byteOf_bv {z : Int} (h : (Lit.int .u8 z).wf = true) : bv (byteOf (.int .u8 z)) = .int .u8 z := by
  have hr : 0 ≤ z ∧ z ≤ 255 := by simpa [Lit.wf, IntKind.min, IntKind.max, IntKind.signed, IntKind.bits] using h
  unfold bv byteOf
  congr 2
  have h2 : (UInt8.ofNat z.toNat).toNat = z.toNat := by simp; omega
  simp only [h2]
  omega

theorem u8_nat {z : Int} (h : (Lit.int .u8 z).wf = true) : ∃ m : Nat, m < 256 ∧ z = (m : Int) := by
  have hr : 0 ≤ z ∧ z ≤ 255 := by simpa [Lit.wf, IntKind.min, IntKind.max, IntKind.signed, IntKind.bits] using h
  exact ⟨z.toNat, by omega, by omega⟩
section
variable {H : Type} {enc : TypeId × Value → H} {W : World} {base : Nat}

/-- Sixteen cells that read as an array of bytes are bytes. -/
theorem dig_read {fuel : Nat} {cs : List Value} {x : DataW H × List MemPlace} (h : DataW.trod enc Tryd.prog W 0 (fun _ => true) true fuel 29 cs = some x) :
    cs.length = 16 ∧ cs = (cs.map byteOf).map bv := by
  obtain ⟨xs, m, _, _, hl, hxl, hi⟩ := DataW.trod_array (n := 16) (e := 5) (by kernel_rfl) h
  have h16 : cs.length = 16 := hl.trans (by kernel_rfl)
  have hc1 : Tryd.prog.cellsOf 5 = 1 := by kernel_rfl
  rw [hc1] at hi
  refine ⟨h16, List.ext_getElem? fun i => ?_⟩
  by_cases hin : i < 16
  · have h := hi i hin
    have hd1 : (cs.drop (i * 1)).take 1 = [cs[i]'(by omega)] := by rw [Nat.mul_one, List.drop_eq_getElem_cons (by omega)]; rfl
    rw [hd1] at h
    obtain ⟨z, ez, _, wz⟩ := DataW.trod_int Tryd.underlying5 (h.trans (List.getElem?_eq_getElem (by omega)))
    have ez2 : cs[i]'(by omega) = .int .u8 z := (List.cons.inj ez).1
    rw [List.map_map, List.getElem?_map, List.getElem?_eq_getElem (by omega), ez2]
    simp [byteOf_bv wz]
  · rw [List.getElem?_eq_none (by omega), List.getElem?_eq_none (by simp; omega)]
theorem dig_some {fuel : Nat} {cs : List Value} {x : DataW H × List MemPlace} (h : DataW.trod enc Tryd.prog W 0 (fun _ => true) true fuel 29 cs = some x) :
    ∃ d : List UInt8, d.length = 16 ∧ cs = d.map bv := by
  obtain ⟨h1, h2⟩ := dig_read h
  exact ⟨cs.map byteOf, by rw [List.length_map]; exact h1, h2⟩
theorem dig_value {v : Value} (hval : Value.okWide Tryd.prog W .any base 29 v) {d : DataW H} {ps : List MemPlace} (hd : DataW.Trod enc Tryd.prog W 0 (fun _ => true) true 29 v d ps) :
    ∃ x : List UInt8, x.length = 16 ∧ v = dv x := by
  have hu : Tryd.prog.underlying 29 = some (.array 16 5) := by kernel_rfl
  unfold Value.okWide at hval
  simp only [hu] at hval
  obtain ⟨cs, rfl, _, _⟩ := hval
  obtain ⟨fuel, hf⟩ := hd
  obtain ⟨x, h1, h2⟩ := dig_some hf
  refine ⟨x, h1, ?_⟩
  simp only [Value.cells] at h2
  unfold dv
  rw [← h2]
end
end Mk
end Go.Proofs.YthpkeaafgabjiaaDoor

/- A slice that came in reads as a list of cells. No condition. -/
namespace Go.Proofs.YthpkeaafgabjiaaDoor
open Go.RowKit Go.ChangeShapes Go.WideShapes
namespace Wire

/-- Cells that were read through an address lie in a block. -/
theorem row_at {w : World} {x : Addr} {len cap : Nat} {cs : List Value} (hcs : cs.length = len) (hl : len ≤ cap) (hm : cap ≤ maxLen) (hcell : ∀ i, i < cap → (w.cell? (x.add i)).isSome = true) (hat : ∀ (i : Nat) (u : Value), cs[i]? = some u → w.cell? (x.add i) = some u) :
    Lies w w.heap.size 1 (some x) len cap cs := by
  have hplain : 0 < cap → ∃ b o, x = ⟨b, o, none⟩ := by
    intro hp
    obtain ⟨u, hu⟩ := Option.isSome_iff_exists.1 (hcell 0 hp)
    obtain ⟨b, o, spot⟩ := x
    have hspot : spot = none := by simpa [Addr.add] using World.cell?_spot hu
    subst hspot
    exact ⟨b, o, rfl⟩
  refine ⟨by omega, hl, hm, fun hp => ?_, fun hp => ?_⟩
  · obtain ⟨b, o, rfl⟩ := hplain hp; exact ⟨b, o, rfl⟩
  · obtain ⟨b, o, rfl⟩ := hplain (by omega)
    refine ⟨b, o, rfl, ?_, fun j u hu => ?_⟩
    · obtain ⟨u, hu⟩ := Option.isSome_iff_exists.1 (hcell 0 (by omega))
      have := World.block_lt_of_cell? w _ hu
      simpa [Addr.add] using this
    · have := hat j u hu
      have hadd : (⟨b, o, none⟩ : Addr).add j = ⟨b, o + j, none⟩ := by unfold Addr.add; split <;> simp_all
      rwa [hadd] at this

end Wire
end Go.Proofs.YthpkeaafgabjiaaDoor

/- Digests, slices of digests, peaks and the arguments of the statements over trees, opened. No condition. -/
namespace Go.Proofs.YthpkeaafgabjiaaDoor
open Go.RowKit Go.ChangeShapes Go.WideShapes
namespace Mk
open Wire (bv Lies)
set_option maxRecDepth 100000
set_option linter.constructorNameAsVariable false

section
variable {H : Type} {enc : TypeId × Value → H} {W : World} {base : Nat}

theorem digs_read {fuel : Nat} {t : TypeId} (ht : Tryd.prog.underlying t = some (.slice 29)) {vs : List Value} {x : DataW H × List MemPlace} (hf : DataW.trod enc Tryd.prog W 0 (fun _ => true) true fuel t vs = some x) :
    ∃ (A : Option Addr) (n c : Nat) (l : List (List UInt8)), vs = [.slice A n c] ∧ LiesD W W.heap.size A n c l := by
  have hc16 : Tryd.prog.cellsOf 29 = 16 := by kernel_rfl
  rcases DataW.trod_slice ht hf with ⟨hcs, _⟩ | ⟨a, len, cap, elems, rest, m, _, hcs, hx, hb, hl, hm, hlen, hel, hsp, _⟩
  · exact ⟨none, 0, 0, [], hcs, liesD_nil _ _ _⟩
  · rw [hc16] at hel hsp
    have each : ∀ i, i < cap → ∃ cs : List Value, W.cells? 0 (a.add (i * 16)) 16 = some cs ∧ cs.length = 16 ∧ cs = (cs.map byteOf).map bv := by
      intro i hi
      have h : ∃ y, (W.cells? 0 (a.add (i * 16)) 16).bind (DataW.trod enc Tryd.prog W 0 (fun _ => true) true m 29) = some y := by
        by_cases hin : i < len
        · exact ⟨_, (hel i hin).trans (List.getElem?_eq_getElem (by omega))⟩
        · obtain ⟨hrl, hr⟩ := hsp rfl
          have h2 := hr (i - len) (by omega)
          rw [show len + (i - len) = i by omega] at h2
          exact ⟨_, h2.trans (List.getElem?_eq_getElem (by omega))⟩
      obtain ⟨y, hy⟩ := h
      obtain ⟨cs, h1, h2⟩ := Option.bind_eq_some_iff.1 hy
      obtain ⟨h3, h4⟩ := dig_read h2
      exact ⟨cs, h1, h3, h4⟩
    rcases Nat.eq_zero_or_pos cap with h0 | hpos
    · have hn : len = 0 := by omega
      subst h0; subst hn
      exact ⟨_, 0, 0, [], hcs, liesD_nil _ _ _⟩
    obtain ⟨b, o, rfl⟩ : ∃ b o, a = ⟨b, o, none⟩ := by
      obtain ⟨cs, h1, h2, _⟩ := each 0 hpos
      have h4 := (World.cells?_some h1).2.2 0 (by omega)
      rw [List.getElem?_eq_getElem (by omega)] at h4
      obtain ⟨b, o, spot⟩ := a
      have hspot : spot = none := by simpa [Addr.add] using World.cell?_spot h4
      subst hspot
      exact ⟨b, o, rfl⟩
    have hadd : ∀ (b o j : Nat), (⟨b, o, none⟩ : Addr).add j = ⟨b, o + j, none⟩ := fun b o j => by unfold Addr.add; split <;> simp_all
    have hw : ∀ i, i < len → ∃ x : List UInt8, x.length = 16 ∧ ∀ (j : Nat) (u : Value), (x.map bv)[j]? = some u → W.cell? ⟨b, o + i * 16 + j, none⟩ = some u := by
      intro i hi
      obtain ⟨cs, h1, h2, h3⟩ := each i (by omega)
      refine ⟨cs.map byteOf, by simpa using h2, fun j u hu => ?_⟩
      have hj : j < 16 := by
        have := (List.getElem?_eq_some_iff.1 hu).1
        simp at this
        omega
      have h4 := (World.cells?_some h1).2.2 j hj
      rw [hadd, hadd] at h4
      rw [h4, h3]
      exact hu
    have hlt : b < W.heap.size := by
      obtain ⟨cs, h1, h2, _⟩ := each 0 hpos
      have h4 := (World.cells?_some h1).2.2 0 (by omega)
      rw [List.getElem?_eq_getElem (by omega)] at h4
      have := World.block_lt_of_cell? W _ h4
      simpa [Addr.add] using this
    obtain ⟨l, hll, hlx⟩ : ∃ l : List (List UInt8), l.length = len ∧ ∀ i x, l[i]? = some x → x.length = 16 ∧ ∀ (j : Nat) (u : Value), (x.map bv)[j]? = some u → W.cell? ⟨b, o + i * 16 + j, none⟩ = some u := by
      refine ⟨(List.range len).map fun i => if h : i < len then Classical.choose (hw i h) else [], by simp, fun i x hx => ?_⟩
      rw [List.getElem?_map] at hx
      have hin : i < len := by
        rcases Nat.lt_or_ge i len with h | h
        · exact h
        · rw [List.getElem?_eq_none (by simpa using h)] at hx; cases hx
      rw [List.getElem?_range hin] at hx
      simp only [Option.map_some, Option.some.injEq, hin, dif_pos] at hx
      subst hx
      exact Classical.choose_spec (hw i hin)
    have hl16 : Ok l := fun x hx => by
      obtain ⟨i, hi⟩ := List.getElem?_of_mem hx
      exact (hlx i x hi).1
    refine ⟨_, len, cap, l, hcs, ⟨⟨by rw [cellsD_length hl16, hll], hl, hm, fun _ => ⟨b, o, rfl⟩, fun hp => ⟨b, o, rfl, hlt, fun j u hu => ?_⟩⟩, hl16⟩⟩
    have hj := (List.getElem?_eq_some_iff.1 hu).1
    rw [cellsD_length hl16, hll] at hj
    have hx : l[j / 16]? = some (l[j / 16]'(by omega)) := List.getElem?_eq_getElem _
    obtain ⟨h1, h2⟩ := hlx _ _ hx
    have hv : ((l[j / 16]'(by omega)).map bv)[j % 16]? = some (bv ((l[j / 16]'(by omega))[j % 16]'(by omega))) := by
      rw [List.getElem?_map, List.getElem?_eq_getElem (by omega)]; rfl
    have h3 := cellsD_at hl16 hx hv
    rw [show j / 16 * 16 + j % 16 = j by omega, hu] at h3
    have h4 := h2 _ _ hv
    rw [show o + j / 16 * 16 + j % 16 = o + j by omega] at h4
    rw [h4, Option.some.inj h3]
theorem digs_value {t : TypeId} (ht : Tryd.prog.underlying t = some (.slice 29)) {v : Value} (hval : Value.okWide Tryd.prog W .any base t v) {d : DataW H} {ps : List MemPlace} (hd : DataW.Trod enc Tryd.prog W 0 (fun _ => true) true t v d ps) :
    ∃ (A : Option Addr) (n c : Nat) (l : List (List UInt8)), v = .slice A n c ∧ LiesD W W.heap.size A n c l := by
  obtain ⟨A, n, c, rfl⟩ := okWide_slice ht hval
  obtain ⟨fuel, hf⟩ := hd
  obtain ⟨A', n', c', l, h1, h2⟩ := digs_read ht hf
  simp only [Value.cells, List.cons.injEq, Value.slice.injEq, and_true] at h1
  obtain ⟨rfl, rfl, rfl⟩ := h1
  exact ⟨A, n, c, l, rfl, h2⟩
theorem int_read {fuel : Nat} {cs : List Value} {x : DataW H × List MemPlace} (h : DataW.trod enc Tryd.prog W 0 (fun _ => true) true fuel 3 cs = some x) : ∃ n : Int, cs = [.int .i64 n] ∧ n ≤ 9223372036854775807 := by
  obtain ⟨n, h1, _, hw⟩ := DataW.trod_int Tryd.underlying3 h
  exact ⟨n, h1, (Wire.i64_range hw).2⟩
theorem peaks_value {v : Value} (hval : Value.okWide Tryd.prog W .any base 56 v) {d : DataW H} {ps : List MemPlace} (hd : DataW.Trod enc Tryd.prog W 0 (fun _ => true) true 56 v d ps) :
    ∃ (n : Int) (A : Option Addr) (k c : Nat) (l : List (List UInt8)), v = pkv n A k c ∧ LiesD W W.heap.size A k c l := by
  obtain ⟨cs, rfl, hn⟩ := okWide_struct Tryd.underlying56 hval
  obtain ⟨fuel, hf⟩ := hd
  obtain ⟨xs, m, _, _, hl, hxl, hi⟩ := DataW.trod_struct Tryd.underlying56 hf
  have c2 : Tryd.prog.cellsOf 56 = 2 := by kernel_rfl
  have c1 : Tryd.prog.cellsOf 3 = 1 := by kernel_rfl
  have cs1 : Tryd.prog.cellsOf 22 = 1 := by kernel_rfl
  rw [c2] at hl
  have hx2 : xs.length = 2 := hxl
  simp only [Value.cells] at hi hl
  have h0 : DataW.trod enc Tryd.prog W 0 (fun _ => true) true m 3 ((cs.toList.drop 0).take (Tryd.prog.cellsOf 3)) = xs[0]? := hi 0 _ rfl
  have h1 : DataW.trod enc Tryd.prog W 0 (fun _ => true) true m 22 ((cs.toList.drop 1).take (Tryd.prog.cellsOf 22)) = xs[1]? := hi 1 _ rfl
  rw [c1] at h0
  rw [cs1] at h1
  obtain ⟨n, e0, hn0⟩ := int_read (h0.trans (List.getElem?_eq_getElem (by omega)))
  obtain ⟨A, k, c, l, e1, hl1⟩ := digs_read Tryd.underlying22 (h1.trans (List.getElem?_eq_getElem (by omega)))
  refine ⟨n, A, k, c, l, ?_, hl1⟩
  unfold pkv
  have e : cs.toList = [.int .i64 n, .slice A k c] := by
    have e2 : cs.toList = cs.toList.take 1 ++ (cs.toList.drop 1).take 1 := by
      rw [← List.take_add, List.take_of_length_le (by omega)]
    rw [e2]
    simp only [List.drop_zero] at e0
    rw [e0, e1]
    rfl
  rw [← e]
theorem in_value {v : Value} (hval : Value.okWide Tryd.prog W .any base 33 v) {d : DataW H} {ps : List MemPlace} (hd : DataW.Trod enc Tryd.prog W 0 (fun _ => true) true 33 v d ps) :
    ∃ (old root : List UInt8) (n i : Int) (x : List UInt8) (A : Option Addr) (q c : Nat) (l : List (List UInt8)), v = iv old root n i x A q c ∧ old.length = 16 ∧ root.length = 16 ∧ x.length = 16 ∧ n ≤ 9223372036854775807 ∧ LiesD W W.heap.size A q c l := by
  obtain ⟨cs, rfl, hn⟩ := okWide_struct Tryd.underlying33 hval
  obtain ⟨fuel, hf⟩ := hd
  obtain ⟨xs, m, _, _, hl, hxl, hi⟩ := DataW.trod_struct Tryd.underlying33 hf
  have c51 : Tryd.prog.cellsOf 33 = 51 := by kernel_rfl
  have c1 : Tryd.prog.cellsOf 3 = 1 := by kernel_rfl
  have cs1 : Tryd.prog.cellsOf 22 = 1 := by kernel_rfl
  have c16 : Tryd.prog.cellsOf 29 = 16 := by kernel_rfl
  rw [c51] at hl
  have hx6 : xs.length = 6 := hxl
  simp only [Value.cells] at hi hl
  have h0 : DataW.trod enc Tryd.prog W 0 (fun _ => true) true m 29 ((cs.toList.drop 0).take (Tryd.prog.cellsOf 29)) = xs[0]? := hi 0 _ rfl
  have h1 : DataW.trod enc Tryd.prog W 0 (fun _ => true) true m 29 ((cs.toList.drop 16).take (Tryd.prog.cellsOf 29)) = xs[1]? := hi 1 _ rfl
  have h2 : DataW.trod enc Tryd.prog W 0 (fun _ => true) true m 3 ((cs.toList.drop 32).take (Tryd.prog.cellsOf 3)) = xs[2]? := hi 2 _ rfl
  have h3 : DataW.trod enc Tryd.prog W 0 (fun _ => true) true m 3 ((cs.toList.drop 33).take (Tryd.prog.cellsOf 3)) = xs[3]? := hi 3 _ rfl
  have h4 : DataW.trod enc Tryd.prog W 0 (fun _ => true) true m 29 ((cs.toList.drop 34).take (Tryd.prog.cellsOf 29)) = xs[4]? := hi 4 _ rfl
  have h5 : DataW.trod enc Tryd.prog W 0 (fun _ => true) true m 22 ((cs.toList.drop 50).take (Tryd.prog.cellsOf 22)) = xs[5]? := hi 5 _ rfl
  rw [c16] at h0 h1 h4
  rw [c1] at h2 h3
  rw [cs1] at h5
  obtain ⟨old, o1, e0⟩ := dig_some (h0.trans (List.getElem?_eq_getElem (by omega)))
  obtain ⟨root, o2, e1⟩ := dig_some (h1.trans (List.getElem?_eq_getElem (by omega)))
  obtain ⟨n, e2, hn2⟩ := int_read (h2.trans (List.getElem?_eq_getElem (by omega)))
  obtain ⟨i, e3, hi3⟩ := int_read (h3.trans (List.getElem?_eq_getElem (by omega)))
  obtain ⟨x, o3, e4⟩ := dig_some (h4.trans (List.getElem?_eq_getElem (by omega)))
  obtain ⟨A, k, c, l, e5, hl1⟩ := digs_read Tryd.underlying22 (h5.trans (List.getElem?_eq_getElem (by omega)))
  refine ⟨old, root, n, i, x, A, k, c, l, ?_, o1, o2, o3, hn2, hl1⟩
  unfold iv cellsI
  have e : cs.toList = old.map bv ++ (root.map bv ++ ([Value.int .i64 n, .int .i64 i] ++ (x.map bv ++ [Value.slice A k c]))) := by
    have t0 : ∀ (l : List Value) (a b : Nat), (l.drop a).take b ++ l.drop (a + b) = l.drop a := fun l a b => by rw [← List.drop_drop, List.take_append_drop]
    have e6 : cs.toList = (cs.toList.drop 0).take 16 ++ ((cs.toList.drop 16).take 16 ++ (((cs.toList.drop 32).take 1 ++ (cs.toList.drop 33).take 1) ++ ((cs.toList.drop 34).take 16 ++ (cs.toList.drop 50).take 1))) := by
      have e50 : (cs.toList.drop 50).take 1 = cs.toList.drop 50 := List.take_of_length_le (by rw [List.length_drop]; omega)
      rw [e50, List.append_assoc, t0 _ 34 16, t0 _ 33 1, t0 _ 32 1, t0 _ 16 16, t0 _ 0 16, List.drop_zero]
    rw [e6, e0, e1, e2, e3, e4, e5]
    rfl
  rw [← e]
end
end Mk
end Go.Proofs.YthpkeaafgabjiaaDoor

/- The arguments of MerkleHistoryIsFixed, opened. No condition. -/
namespace Go.Proofs.YthpkeaafgabjiaaDoor
open Go.RowKit Go.ChangeShapes Go.WideShapes
namespace Mk
open Wire (bv Lies)
set_option maxRecDepth 100000
set_option linter.constructorNameAsVariable false

def cellsH (old root : List UInt8) (m n i : Int) (a b : List UInt8) (v1 v2 v3 : Value) : List Value :=
  old.map bv ++ (root.map bv ++ ([Value.int .i64 m, .int .i64 n, .int .i64 i] ++ (a.map bv ++ (b.map bv ++ [v1, v2, v3]))))
def hiv (old root : List UInt8) (m n i : Int) (a b : List UInt8) (v1 v2 v3 : Value) : Value := .agg (cellsH old root m n i a b v1 v2 v3).toArray

theorem hist_value {H : Type} {enc : TypeId × Value → H} {W : World} {base : Nat} {v : Value} (hval : Value.okWide Tryd.prog W .any base 47 v) {d : DataW H} {ps : List MemPlace} (hd : DataW.Trod enc Tryd.prog W 0 (fun _ => true) true 47 v d ps) :
    ∃ (old root : List UInt8) (m n i : Int) (a b : List UInt8) (A1 : Option Addr) (q1 c1 : Nat) (l1 : List (List UInt8)) (A2 : Option Addr) (q2 c2 : Nat) (l2 : List (List UInt8)) (A3 : Option Addr) (q3 c3 : Nat) (l3 : List (List UInt8)),
      v = hiv old root m n i a b (.slice A1 q1 c1) (.slice A2 q2 c2) (.slice A3 q3 c3) ∧ (old.length = 16 ∧ root.length = 16 ∧ a.length = 16 ∧ b.length = 16) ∧ (m ≤ 9223372036854775807 ∧ n ≤ 9223372036854775807) ∧
      LiesD W W.heap.size A1 q1 c1 l1 ∧ LiesD W W.heap.size A2 q2 c2 l2 ∧ LiesD W W.heap.size A3 q3 c3 l3 := by
  obtain ⟨cs, rfl, hn⟩ := okWide_struct Tryd.underlying47 hval
  obtain ⟨fuel, hf⟩ := hd
  obtain ⟨xs, m, _, _, hl, hxl, hi⟩ := DataW.trod_struct Tryd.underlying47 hf
  have c70 : Tryd.prog.cellsOf 47 = 70 := by kernel_rfl
  have c1 : Tryd.prog.cellsOf 3 = 1 := by kernel_rfl
  have cs1 : Tryd.prog.cellsOf 22 = 1 := by kernel_rfl
  have c16 : Tryd.prog.cellsOf 29 = 16 := by kernel_rfl
  rw [c70] at hl
  have hx10 : xs.length = 10 := hxl
  simp only [Value.cells] at hi hl
  have h0 : DataW.trod enc Tryd.prog W 0 (fun _ => true) true m 29 ((cs.toList.drop 0).take (Tryd.prog.cellsOf 29)) = xs[0]? := hi 0 _ rfl
  have h1 : DataW.trod enc Tryd.prog W 0 (fun _ => true) true m 29 ((cs.toList.drop 16).take (Tryd.prog.cellsOf 29)) = xs[1]? := hi 1 _ rfl
  have h2 : DataW.trod enc Tryd.prog W 0 (fun _ => true) true m 3 ((cs.toList.drop 32).take (Tryd.prog.cellsOf 3)) = xs[2]? := hi 2 _ rfl
  have h3 : DataW.trod enc Tryd.prog W 0 (fun _ => true) true m 3 ((cs.toList.drop 33).take (Tryd.prog.cellsOf 3)) = xs[3]? := hi 3 _ rfl
  have h4 : DataW.trod enc Tryd.prog W 0 (fun _ => true) true m 3 ((cs.toList.drop 34).take (Tryd.prog.cellsOf 3)) = xs[4]? := hi 4 _ rfl
  have h5 : DataW.trod enc Tryd.prog W 0 (fun _ => true) true m 29 ((cs.toList.drop 35).take (Tryd.prog.cellsOf 29)) = xs[5]? := hi 5 _ rfl
  have h6 : DataW.trod enc Tryd.prog W 0 (fun _ => true) true m 29 ((cs.toList.drop 51).take (Tryd.prog.cellsOf 29)) = xs[6]? := hi 6 _ rfl
  have h7 : DataW.trod enc Tryd.prog W 0 (fun _ => true) true m 22 ((cs.toList.drop 67).take (Tryd.prog.cellsOf 22)) = xs[7]? := hi 7 _ rfl
  have h8 : DataW.trod enc Tryd.prog W 0 (fun _ => true) true m 22 ((cs.toList.drop 68).take (Tryd.prog.cellsOf 22)) = xs[8]? := hi 8 _ rfl
  have h9 : DataW.trod enc Tryd.prog W 0 (fun _ => true) true m 22 ((cs.toList.drop 69).take (Tryd.prog.cellsOf 22)) = xs[9]? := hi 9 _ rfl
  rw [c16] at h0 h1 h5 h6
  rw [c1] at h2 h3 h4
  rw [cs1] at h7 h8 h9
  obtain ⟨old, o0, e0⟩ := dig_some (h0.trans (List.getElem?_eq_getElem (by omega)))
  obtain ⟨root, o1, e1⟩ := dig_some (h1.trans (List.getElem?_eq_getElem (by omega)))
  obtain ⟨mm, e2, b2⟩ := int_read (h2.trans (List.getElem?_eq_getElem (by omega)))
  obtain ⟨n, e3, b3⟩ := int_read (h3.trans (List.getElem?_eq_getElem (by omega)))
  obtain ⟨i, e4, b4⟩ := int_read (h4.trans (List.getElem?_eq_getElem (by omega)))
  obtain ⟨a, o5, e5⟩ := dig_some (h5.trans (List.getElem?_eq_getElem (by omega)))
  obtain ⟨b, o6, e6⟩ := dig_some (h6.trans (List.getElem?_eq_getElem (by omega)))
  obtain ⟨A1, q1, k1, l1, e7, x1⟩ := digs_read Tryd.underlying22 (h7.trans (List.getElem?_eq_getElem (by omega)))
  obtain ⟨A2, q2, k2, l2, e8, x2⟩ := digs_read Tryd.underlying22 (h8.trans (List.getElem?_eq_getElem (by omega)))
  obtain ⟨A3, q3, k3, l3, e9, x3⟩ := digs_read Tryd.underlying22 (h9.trans (List.getElem?_eq_getElem (by omega)))
  refine ⟨old, root, mm, n, i, a, b, A1, q1, k1, l1, A2, q2, k2, l2, A3, q3, k3, l3, ?_, ⟨o0, o1, o5, o6⟩, ⟨b2, b3⟩, x1, x2, x3⟩
  unfold hiv cellsH
  have e : cs.toList = old.map bv ++ (root.map bv ++ ([Value.int .i64 mm, .int .i64 n, .int .i64 i] ++ (a.map bv ++ (b.map bv ++ [Value.slice A1 q1 k1, .slice A2 q2 k2, .slice A3 q3 k3])))) := by
    have t0 : ∀ (l : List Value) (a b : Nat), (l.drop a).take b ++ l.drop (a + b) = l.drop a := fun l a b => by rw [← List.drop_drop, List.take_append_drop]
    have e11 : cs.toList = (cs.toList.drop 0).take 16 ++ ((cs.toList.drop 16).take 16 ++ ((cs.toList.drop 32).take 1 ++ ((cs.toList.drop 33).take 1 ++ ((cs.toList.drop 34).take 1 ++ ((cs.toList.drop 35).take 16 ++ ((cs.toList.drop 51).take 16 ++ ((cs.toList.drop 67).take 1 ++ ((cs.toList.drop 68).take 1 ++ (cs.toList.drop 69).take 1)))))))) := by
      have e69 : (cs.toList.drop 69).take 1 = cs.toList.drop 69 := List.take_of_length_le (by rw [List.length_drop]; omega)
      rw [e69, t0 _ 68 1, t0 _ 67 1, t0 _ 51 16, t0 _ 35 16, t0 _ 34 1, t0 _ 33 1, t0 _ 32 1, t0 _ 16 16, t0 _ 0 16, List.drop_zero]
    rw [e11, e0, e1, e2, e3, e4, e5, e6, e7, e8, e9]
    rfl
  rw [← e]
end Mk
end Go.Proofs.YthpkeaafgabjiaaDoor

/- The premise on the package-level tables, opened, for the statements over trees: where they read as the program's text lays them, each cell that is read holds the constant of its index; and the world that the program's own run leaves meets the premise. Condition: the premise of the statement. -/
namespace Go.Proofs.YthpkeaafgabjiaaDoor
open Go.ChangeShapes Go.WideShapes Go.ChangeAt Go.RowKit
open Hash (Table ks)
namespace Mk
theorem lit_of_trod {H : Type} {enc : TypeId × Value → H} {P : Program} {w : World} {base : Nat} {sp : Nat → Bool} {held : Bool} {fuel : Nat} {t : TypeId} {k : IntKind} {c : Value} {y : DataW H × List MemPlace}
    (ht : P.underlying t = some (.int k)) (h : DataW.trod enc P w base sp held fuel t [c] = some y) : ∃ n, c = .int k n ∧ y = (.lit (.int k n), []) := by
  cases fuel with
  | zero => simp [DataW.trod] at h
  | succ fuel =>
    cases c <;> simp [DataW.trod, ht] at h
    rename_i k' n
    obtain ⟨⟨rfl, _⟩, rfl⟩ := h
    exact ⟨n, rfl, rfl⟩
theorem ks_len : ks.length = 64 := by decide +kernel
theorem cells_of_trod {H : Type} {enc : TypeId × Value → H} {w W : World} {base g : Nat} {sp : Nat → Bool} {held : Bool} {fuel : Nat} {cs : Array Value} {p : List MemPlace} {t e : TypeId} {k : IntKind} {l : List Int} (hcell : ∀ j, W.cell? ⟨g, j, none⟩ = cs[j]?)
    (ht : Tryd.prog.underlying t = some (.array 64 e)) (he : Tryd.prog.underlying e = some (.int k)) (c1 : Tryd.prog.cellsOf e = 1) (c64 : Tryd.prog.cellsOf t = 64) (hl : l.length = 64)
    (hd : DataW.trod enc Tryd.prog w base sp held fuel t cs.toList = some (.agg (l.map fun n : Int => .lit (.int k n)), p)) : ∀ (j : Nat) (h : j < l.length), W.cell? ⟨g, j, none⟩ = some (.int k l[j]) := by
  obtain ⟨xs, m, _, hx, hlen, hn, hel⟩ := DataW.trod_array ht hd
  rw [c64, Array.length_toList] at hlen
  simp only [Prod.mk.injEq, DataW.agg.injEq] at hx
  intro j hj
  have h := hel j (by omega)
  have hjc : j < cs.size := by omega
  rw [c1, Nat.mul_one, List.drop_eq_getElem_cons (by simpa using hjc), List.getElem?_eq_getElem (by omega)] at h
  obtain ⟨n, e1, e2⟩ := lit_of_trod he (show DataW.trod enc Tryd.prog w base sp held m e [cs.toList[j]] = _ from h)
  have h2 : (l.map fun n : Int => (DataW.lit (.int k n) : DataW H))[j]? = (xs.map (·.1))[j]? := by rw [hx.1]
  rw [List.getElem?_map, List.getElem?_map, List.getElem?_eq_getElem hj, List.getElem?_eq_getElem (by omega), e2] at h2
  simp only [Option.map_some, Option.some.injEq, DataW.lit.injEq, Lit.int.injEq, true_and] at h2
  rw [hcell j, Array.getElem?_eq_getElem hjc]
  rw [← Array.getElem_toList, e1, h2]
theorem table_of {H : Type} {enc : TypeId × Value → H} {w W : World} {base g : Nat} {sp : Nat → Bool} {held : Bool} {fuel : Nat} {cs : Array Value} {p : List MemPlace} (hcell : ∀ j, W.cell? ⟨g, j, none⟩ = cs[j]?)
    (hd : DataW.trod enc Tryd.prog w base sp held fuel 113 cs.toList = some (.agg ((ks.map fun k : Nat => (k : Int)).map fun n : Int => .lit (.int .u32 n)), p)) : Table g W := by
  have hlen : (ks.map fun k : Nat => (k : Int)).length = 64 := by rw [List.length_map]; exact ks_len
  have h := cells_of_trod hcell Tryd.underlying113 Tryd.underlying95 (by kernel_rfl) (by kernel_rfl) hlen hd
  intro j hj
  rw [h j (by omega)]
  have e3 : ks.getD j 0 = ks[j]'(by rw [ks_len]; exact hj) := by simp [List.getD, ks_len, hj]
  rw [e3]
  simp [Hash.wv]
theorem tab_of {H : Type} {enc : TypeId × Value → H} {w W : World} {base : Nat} {sp : Nat → Bool} {held : Bool} {fuel : Nat} {cs : Array Value} {p : List MemPlace} (hcell : ∀ j, W.cell? ⟨2, j, none⟩ = cs[j]?)
    (hd : DataW.trod enc Tryd.prog w base sp held fuel 97 cs.toList = some (.agg ((Lib.deBruijn64tab.map fun k : Nat => (k : Int)).map fun n : Int => .lit (.int .u8 n)), p)) : Tab64 W := by
  have h := cells_of_trod hcell (show Tryd.prog.underlying 97 = some (.array 64 5) by kernel_rfl) Tryd.underlying5 (by kernel_rfl) (by kernel_rfl) (by decide) hd
  intro j hj
  rw [h j (by rw [List.length_map]; exact hj)]
  simp [List.getD, hj]
theorem gRounds : Tryd.prog.globalNamed "custody/hash.rounds" = some 3 := by kernel_rfl
theorem tRounds : (Tryd.prog.globals[3]?).map (·.type) = some 113 := by kernel_rfl
theorem gConsts : Tryd.prog.globalNamed "custody/custodyref02.constants" = some 0 := by kernel_rfl
theorem tConsts : (Tryd.prog.globals[0]?).map (·.type) = some 113 := by kernel_rfl
theorem gTab : Tryd.prog.globalNamed "math/bits.deBruijn64tab" = some 2 := by kernel_rfl
theorem tTab : (Tryd.prog.globals[2]?).map (·.type) = some 97 := by kernel_rfl
abbrev laid4 : List (String × DataW Unit) := [("custody/custodyref02.constants", Rows.laid_custody_custodyref02_constants), ("math/bits.deBruijn32tab", Rows.laid_math_bits_deBruijn32tab), ("math/bits.deBruijn64tab", Rows.laid_math_bits_deBruijn64tab), ("custody/hash.rounds", Rows.laid_custody_hash_rounds)]
abbrev laid3 : List (String × DataW Unit) := [("math/bits.deBruijn32tab", Rows.laid_math_bits_deBruijn32tab), ("math/bits.deBruijn64tab", Rows.laid_math_bits_deBruijn64tab), ("custody/hash.rounds", Rows.laid_custody_hash_rounds)]
theorem rounds_ks : (Rows.laid_custody_hash_rounds : DataW Unit) = .agg ((ks.map fun k : Nat => (k : Int)).map fun n : Int => .lit (.int .u32 n)) := by rfl
theorem consts_ks : (Rows.laid_custody_custodyref02_constants : DataW Unit) = .agg ((ks.map fun k : Nat => (k : Int)).map fun n : Int => .lit (.int .u32 n)) := by rfl
theorem tab_ks : (Rows.laid_math_bits_deBruijn64tab : DataW Unit) = .agg ((Lib.deBruijn64tab.map fun k : Nat => (k : Int)).map fun n : Int => .lit (.int .u8 n)) := by rfl
/-- What the condition gives the walks: the tables. -/
theorem of_laid3 {W : World} (h : laidMetH Tryd.prog laid3 W) : TP W := by
  rw [MakeChecks.laidMetH_plain _ _ _ (by kernel_rfl)] at h
  obtain ⟨ps, ⟨_, _, _, _, _, _, _, _, _, _, ⟨g1, t1, cs1, f1, p1, q1, hg1, ht1, hv1, hd1, ⟨g2, t2, cs2, f2, p2, q2, hg2, ht2, hv2, hd2, _⟩, _⟩, _⟩, _⟩ := h
  obtain rfl := Option.some.inj (gTab.symm.trans hg1)
  obtain rfl := Option.some.inj (tTab.symm.trans ht1)
  obtain rfl := Option.some.inj (gRounds.symm.trans hg2)
  obtain rfl := Option.some.inj (tRounds.symm.trans ht2)
  rw [tab_ks] at hd1
  rw [rounds_ks] at hd2
  exact ⟨table_of (fun j => World.var?_cell hg2 hv2 j) hd2, tab_of (fun j => World.var?_cell hg1 hv1 j) hd1⟩
theorem of_laid4 {W : World} (h : laidMetH Tryd.prog laid4 W) : TT W := by
  rw [MakeChecks.laidMetH_plain _ _ _ (by kernel_rfl)] at h
  obtain ⟨ps, ⟨g0, t0, cs0, f0, p0, q0, hg0, ht0, hv0, hd0, ⟨_, _, _, _, _, _, _, _, _, _, ⟨g1, t1, cs1, f1, p1, q1, hg1, ht1, hv1, hd1, ⟨g2, t2, cs2, f2, p2, q2, hg2, ht2, hv2, hd2, _⟩, _⟩, _⟩, _⟩, _⟩ := h
  obtain rfl := Option.some.inj (gConsts.symm.trans hg0)
  obtain rfl := Option.some.inj (tConsts.symm.trans ht0)
  obtain rfl := Option.some.inj (gTab.symm.trans hg1)
  obtain rfl := Option.some.inj (tTab.symm.trans ht1)
  obtain rfl := Option.some.inj (gRounds.symm.trans hg2)
  obtain rfl := Option.some.inj (tRounds.symm.trans ht2)
  rw [consts_ks] at hd0
  rw [tab_ks] at hd1
  rw [rounds_ks] at hd2
  exact ⟨⟨table_of (fun j => World.var?_cell hg2 hv2 j) hd2, tab_of (fun j => World.var?_cell hg1 hv1 j) hd1⟩, table_of (fun j => World.var?_cell hg0 hv0 j) hd0⟩
/-- The door's own heap meets the condition. -/
theorem door_met3 (os : Os) (args : Array Value) : laidMetH Tryd.prog laid3 ((World.doorLaid Tryd.prog 19 os).forCall (fun _ _ => 0) ⟨#[], args, []⟩).memory :=
  laidMetH_of_parts3 (fuel := 8) (laidMet_of_run' 8 (by kernel_rfl) (by kernel_rfl)) (by kernel_rfl) (by kernel_rfl)
theorem door_met4 (os : Os) (args : Array Value) : laidMetH Tryd.prog laid4 ((World.doorLaid Tryd.prog 19 os).forCall (fun _ _ => 0) ⟨#[], args, []⟩).memory :=
  laidMetH_of_parts3 (fuel := 8) (laidMet_of_run' 8 (by kernel_rfl) (by kernel_rfl)) (by kernel_rfl) (by kernel_rfl)
end Mk
end Go.Proofs.YthpkeaafgabjiaaDoor

