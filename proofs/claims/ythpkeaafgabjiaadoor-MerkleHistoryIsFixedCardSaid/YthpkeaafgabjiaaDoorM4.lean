/- HTell; HBag: what each of these parts proves stands ahead of it. -/
import Derived.Test.YthpkeaafgabjiaaDoorM1
import Derived.Test.YthpkeaafgabjiaaDoorZBase
import Derived.Test.YthpkeaafgabjiaaDoorM3
import Derived.Deep.RegionHeld3
import Derived.Deep.RegionWith
/- Bytes and bits, the byte of a text at an index, a bool that is told. No condition. -/
namespace Go.Proofs.YthpkeaafgabjiaaDoor
open Go.RowKit
namespace Hash

theorem ofInt8 (a : UInt8) : (BitVec.ofInt 8 (a.toNat : Int)).toNat = a.toNat := by
  have := a.toNat_lt
  rw [BitVec.ofInt_natCast, BitVec.toNat_ofNat]; exact Nat.mod_eq_of_lt (by omega)
theorem xor8 (a b : UInt8) : bits .xor .u8 (a.toNat : Int) (b.toNat : Int) = ((a ^^^ b).toNat : Int) := by
  have h := (a ^^^ b).toNat_lt
  show IntKind.u8.wrap ((BitVec.ofInt 8 (a.toNat : Int) ^^^ BitVec.ofInt 8 (b.toNat : Int)).toNat : Int) = _
  rw [BitVec.toNat_xor, ofInt8, ofInt8, ← UInt8.toNat_xor, IntKind.wrap_u8]; omega
theorem or8 (a b : UInt8) : bits .or .u8 (a.toNat : Int) (b.toNat : Int) = ((a ||| b).toNat : Int) := by
  have h := (a ||| b).toNat_lt
  show IntKind.u8.wrap ((BitVec.ofInt 8 (a.toNat : Int) ||| BitVec.ofInt 8 (b.toNat : Int)).toNat : Int) = _
  rw [BitVec.toNat_or, ofInt8, ofInt8, ← UInt8.toNat_or, IntKind.wrap_u8]; omega
theorem or_zero {d x y : UInt8} : (d ||| (x ^^^ y)) = 0 ↔ d = 0 ∧ x = y := by
  rw [UInt8.or_eq_zero_iff, UInt8.xor_eq_zero_iff]

theorem index_at (a : List UInt8) (k : Nat) (x : UInt8) (hx : a[k]? = some x) (W : World) : (Instr.index 9 (.string ⟨a.toArray⟩) (.int .i64 (k : Int))).run Tryd.prog W = .ok (.int .u8 (x.toNat : Int)) W := by
  have hk := (List.getElem?_eq_some_iff.1 hx).1
  have hs : (⟨a.toArray⟩ : ByteArray).size = a.length := by simp [ByteArray.size]
  have hxx := (List.getElem?_eq_some_iff.1 hx).2
  rw [run_index_string (h := Tryd.underlying9)]
  rw [dif_pos ⟨by omega, by rw [hs]; omega⟩]
  rw [← hxx]
  rfl
/-- A bool is returned; the memory is as it was. -/
def Tells (b : Bool) (w : World) (e : Ending) (w' : World) : Prop := e = .returned (.bool b) ∧ ∃ k, w' = w.drewN k

end Hash
end Go.Proofs.YthpkeaafgabjiaaDoor

/- Words that the proofs over the package hash share: a text is returned, memory below, arrays that are new. No condition. -/
namespace Go.Proofs.YthpkeaafgabjiaaDoor
open Go.RowKit
namespace Hash
theorem strm_one (m : List UInt8) : ∀ v ∈ strm m, v.oneCell' = true := by
  intro v hv
  have h := sval_one (blocks m (m.length / 64)) (full m []) (low64 m.length)
  refine Array.all_eq_true_iff_forall_mem.1 h v ?_
  rw [List.mem_toArray]
  exact hv
theorem store_strm (m : List UInt8) (g : Nat) (W : World) (h : W.there g 0 73) : (storeCells ⟨g, 0, none⟩ (strm m)).run Tryd.prog W = .ok () (W.setCells g 0 (strm m)) := by
  have hl := strm_length m
  have := run_storeCells_cells (P := Tryd.prog) g 0 (strm m) 0 W (fun j hj => by rw [Nat.add_zero]; exact (h j (by omega)).1) (fun j hj => by rw [Nat.add_zero]; exact (h j (by omega)).2) (strm_one m)
  rwa [Nat.add_zero] at this
theorem arr_lies {W : World} {g n : Nat} {bs : List UInt8} (h : Arr W g n (bs.map Wire.bv)) (hn : n ≤ maxLen) (h0 : 0 < n) : Wire.Lies W W.heap.size 1 (some ⟨g, 0, none⟩) n n (bs.map Wire.bv) :=
  ⟨by rw [h.len]; omega, Nat.le_refl _, hn, fun _ => ⟨g, 0, rfl⟩, fun _ => ⟨g, 0, rfl, h.size h0, fun j u hu => by rw [Nat.zero_add]; exact h.cells j u hu⟩⟩
/-- A text is returned; the memory that was there is as it was. -/
def GivesT (s : List UInt8) (w : World) (e : Ending) (w' : World) : Prop := e = .returned (.string ⟨s.toArray⟩) ∧ Below w.heap.size w w'
theorem bcj {w w1 w2 : World} (h1 : Below w.heap.size w w1) (h2 : Below w1.heap.size w1 w2) : Below w.heap.size w w2 := h1.trans (h2.mono h1.size)
theorem tabj {w w1 : World} {gT : Nat} (h : Table gT w) (hb : Below w.heap.size w w1) : Table gT w1 := h.below hb h.size
theorem fresh32 (W : World) (bs : List UInt8) (hl : bs.length = 32) (t : TypeId) : (W.alloc (.cells z32 t)).there W.heap.size 0 (bs.map Wire.bv).toArray.size := by
  have h := (arr_new W z32 t).there
  rw [z32_size] at h
  rw [show (bs.map Wire.bv).toArray.size = 32 by rw [List.size_toArray, List.length_map]; exact hl]
  exact h
theorem fresh32A (W : World) (bs : List UInt8) (hl : bs.length = 32) (t : TypeId) : Arr ((W.alloc (.cells z32 t)).setCells W.heap.size 0 (bs.map Wire.bv).toArray.toList) W.heap.size 32 (bs.map Wire.bv) ∧ Below W.heap.size W ((W.alloc (.cells z32 t)).setCells W.heap.size 0 (bs.map Wire.bv).toArray.toList) := by
  have h := arr_new W z32 t
  rw [z32_size] at h
  exact ⟨h.over (by rw [List.length_map]; exact hl), ((Below.refl _ _).alloc (Nat.le_refl _) _).trans (below_cells (Nat.le_refl _) _ _ _)⟩

end Hash
end Go.Proofs.YthpkeaafgabjiaaDoor

