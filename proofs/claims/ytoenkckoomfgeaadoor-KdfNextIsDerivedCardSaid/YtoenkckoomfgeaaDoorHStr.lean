/- What a stream holds, as a function of the message so far: mathematics, and the cells. No condition. -/
import Derived.Test.YtoenkckoomfgeaaDoorHNext
namespace Go.Proofs.YtoenkckoomfgeaaDoor
open Go.RowKit
namespace Hash

theorem blocks_append (m x : List UInt8) : ∀ n, 64 * n ≤ m.length → blocks (m ++ x) n = blocks m n
  | 0, _ => rfl
  | n + 1, h => by
    have e : ((m ++ x).drop (64 * n)).take 64 = (m.drop (64 * n)).take 64 := by
      rw [List.drop_append_of_le_length (by omega), List.take_append_of_le_length (by rw [List.length_drop]; omega)]
    simp only [blocks, e, blocks_append m x n (by omega)]
theorem comp_length (hs : List Nat) (b : List UInt8) (hl : hs.length = 8) : (comp hs b).length = 8 := by rw [after_all]; simp [hl, St.list]
theorem comp_lt (hs : List Nat) (b : List UInt8) : ∀ x ∈ comp hs b, x < 4294967296 := by
  intro x hx
  rw [after_all] at hx
  obtain ⟨i, hi, rfl⟩ := List.mem_iff_getElem.1 hx
  rw [List.getElem_zipWith]
  exact add_lt _ _
theorem blocks_length (l : List UInt8) : ∀ n, (blocks l n).length = 8
  | 0 => rfl
  | n + 1 => comp_length _ _ (blocks_length l n)
theorem blocks_lt (l : List UInt8) : ∀ n, ∀ x ∈ blocks l n, x < 4294967296
  | 0 => by
    intro x hx
    have h : ∀ y ∈ h0, y < 4294967296 := by decide +kernel
    exact h x hx
  | n + 1 => comp_lt _ _

def low64 (n : Nat) : Nat := n % 18446744073709551616
theorem low64_mod (n : Nat) : low64 n % 64 = n % 64 := by unfold low64; omega
theorem low64_lt (n : Nat) : low64 n < 18446744073709551616 := Nat.mod_lt _ (by omega)
theorem low64_add (a b : Nat) : (((low64 a : Nat) : Int) + (b : Int)) % 18446744073709551616 = ((low64 (a + b) : Nat) : Int) := by unfold low64; omega

def tail (m : List UInt8) : List UInt8 := m.drop (64 * (m.length / 64))
theorem tail_length (m : List UInt8) : (tail m).length = m.length % 64 := by unfold tail; rw [List.length_drop]; omega
/-- The bytes of the block under way, with x behind what lies there. -/
def full (m x : List UInt8) : List UInt8 := tail m ++ (x ++ zeros (64 - m.length % 64 - x.length))
theorem zeros_length (k : Nat) : (zeros k).length = k := by simp [zeros]
theorem full_length (m x : List UInt8) (h : m.length % 64 + x.length ≤ 64) : (full m x).length = 64 := by
  unfold full
  rw [List.length_append, List.length_append, tail_length, zeros_length]; omega
def strm (m : List UInt8) : List Value := sval (blocks m (m.length / 64)) (full m []) (low64 m.length)
/-- .. with x behind what lies in the block, not yet counted. -/
def strmX (m x : List UInt8) (n : Nat) : List Value := sval (blocks m (m.length / 64)) (full m x) n

theorem strm_small (m x : List UInt8) (h : m.length % 64 + x.length < 64) : strmX m x (low64 (m.length + x.length)) = strm (m ++ x) := by
  have hq : (m.length + x.length) / 64 = m.length / 64 := by omega
  have hr : (m.length + x.length) % 64 = m.length % 64 + x.length := by omega
  unfold strmX strm full tail
  rw [List.length_append, hq, hr, blocks_append _ _ _ (by omega), List.drop_append_of_le_length (by omega)]
  simp [Nat.sub_sub]
theorem strm_full (m x : List UInt8) (h : m.length % 64 + x.length = 64) : sval (comp (blocks m (m.length / 64)) (full m x)) (zeros 64) (low64 (m.length + x.length)) = strm (m ++ x) := by
  have hq : (m.length + x.length) / 64 = m.length / 64 + 1 := by omega
  have hr : (m.length + x.length) % 64 = 0 := by omega
  have hz : 64 - m.length % 64 - x.length = 0 := by omega
  have hd : List.drop (64 * (m.length / 64 + 1)) (m ++ x) = [] := List.drop_of_length_le (by rw [List.length_append]; omega)
  have hb : blocks (m ++ x) (m.length / 64 + 1) = comp (blocks m (m.length / 64)) (full m x) := by
    simp only [blocks]
    rw [blocks_append _ _ _ (by omega), List.drop_append_of_le_length (by omega)]
    congr 1
    rw [List.take_of_length_le (by rw [List.length_append, List.length_drop]; omega)]
    simp [full, tail, hz, zeros]
  unfold strm
  rw [List.length_append, hq, hb]
  congr 1
  unfold full tail
  rw [List.length_append, hq, hr, hd]
  simp
theorem strmX_nil (m : List UInt8) (n : Nat) : strmX m [] n = sval (blocks m (m.length / 64)) (full m []) n := rfl
theorem strm_length (m : List UInt8) : (strm m).length = 73 := sval_length (blocks_length _ _) (full_length _ _ (by have := Nat.mod_lt m.length (show 0 < 64 by omega); simp; omega))
theorem strmX_length (m x : List UInt8) (n : Nat) (h : m.length % 64 + x.length ≤ 64) : (strmX m x n).length = 73 := sval_length (blocks_length _ _) (full_length _ _ h)

/-- Bytes are copied behind what lies in the block. -/
theorem copied {w W : World} {gT : Nat} {m x : List UInt8} {n : Nat} (h : NextS w W gT (strmX m [] n)) (hx : m.length % 64 + x.length ≤ 64) (hg : gT < w.heap.size) :
    NextS w (W.setCells w.heap.size (8 + m.length % 64) (x.map Wire.bv)) gT (strmX m x n) ∧ W.there w.heap.size (8 + m.length % 64) (x.map Wire.bv).length := by
  have e1 : strmX m [] n = ((blocks m (m.length / 64)).map wv ++ (tail m).map Wire.bv) ++ ((zeros x.length).map Wire.bv ++ ((zeros (64 - m.length % 64 - x.length)).map Wire.bv ++ [.int .u64 (n : Int)])) := by
    unfold strmX sval full
    have : zeros (64 - m.length % 64) = zeros x.length ++ zeros (64 - m.length % 64 - x.length) := by simp [zeros]; omega
    simp [this]
  have e2 : strmX m x n = ((blocks m (m.length / 64)).map wv ++ (tail m).map Wire.bv) ++ (x.map Wire.bv ++ ((zeros (64 - m.length % 64 - x.length)).map Wire.bv ++ [.int .u64 (n : Int)])) := by
    simp [strmX, sval, full]
  have e3 : ((blocks m (m.length / 64)).map wv ++ (tail m).map Wire.bv).length = 8 + m.length % 64 := by simp [blocks_length, tail_length]
  rw [e1] at h
  have h1 := h.patch (vs := x.map Wire.bv) (by simp [zeros]) hg
  have h2 := h.val.midThere
  rw [e3] at h1 h2
  rw [e2]
  refine ⟨h1, ?_⟩
  rw [show (x.map Wire.bv).length = ((zeros x.length).map Wire.bv).length by simp [zeros]]
  exact h2
/-- The length's cell. -/
theorem NextS.lenAt {w W : World} {gT : Nat} {hs : List Nat} {rest : List UInt8} {n : Nat} (h : NextS w W gT (sval hs rest n)) (hl : hs.length = 8) (hr : rest.length = 64) : W.cell? ⟨w.heap.size, 72, none⟩ = some (.int .u64 (n : Int)) ∧ W.frozen? ⟨w.heap.size, 72, none⟩ = false := by
  refine h.val.at_ (i := 72) ?_
  unfold sval
  rw [List.getElem?_append_right (by simp [hl]), List.getElem?_append_right (by simp [hl, hr])]
  simp [hl, hr]
theorem NextS.setLen {w W : World} {gT : Nat} {hs : List Nat} {rest : List UInt8} {n : Nat} (h : NextS w W gT (sval hs rest n)) (hl : hs.length = 8) (hr : rest.length = 64) (hg : gT < w.heap.size) (k : Nat) :
    NextS w (W.setCell ⟨w.heap.size, 72, none⟩ (.int .u64 (k : Int))) gT (sval hs rest k) := by
  obtain ⟨ys, hy⟩ := h.res
  have hb : Below w.heap.size w (W.setCell ⟨w.heap.size, 72, none⟩ (.int .u64 (k : Int))) := h.below.setCell (by simp) _
  have hv := h.val.set (i := 72) (by omega) (.int .u64 (k : Int))
  have e : (sval hs rest n).set 72 (.int .u64 (k : Int)) = sval hs rest k := by
    unfold sval
    rw [List.set_append_right _ _ (by simp [hl]), List.set_append_right _ _ (by simp [hl, hr])]
    simp [hl, hr]
  rw [e] at hv
  exact ⟨hv, ⟨ys, hy.other (by omega) _⟩, h.tab.below (Below.setCell (Below.refl _ _) (by simp) _) hg, hb⟩
theorem NextS.drew {w W : World} {gT : Nat} {xs : List Value} (h : NextS w W gT xs) : NextS w W.drew gT xs := by
  obtain ⟨ys, hy⟩ := h.res
  exact ⟨h.val.drew 1, ⟨ys, hy.drew 1⟩, h.tab.drew 1, h.below.drew⟩

end Hash
end Go.Proofs.YtoenkckoomfgeaaDoor
