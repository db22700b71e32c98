/- A text XORed with blocks: Xor, of the package cipher. Conditions: the text has at most 2^47 bytes; those that each theorem names. -/
import Derived.Test.YtdlcoajjhcbffaaDoorZCXor
namespace Go.Proofs.YtdlcoajjhcbffaaDoor
open Go.RowKit
namespace Cha

theorem ofInt8 (a : UInt8) : (BitVec.ofInt 8 (a.toNat : Int)).toNat = a.toNat := by
  have := a.toNat_lt
  rw [BitVec.ofInt_natCast, BitVec.toNat_ofNat]; exact Nat.mod_eq_of_lt (by omega)
theorem xor8 (a b : UInt8) : bits .xor .u8 (a.toNat : Int) (b.toNat : Int) = ((a ^^^ b).toNat : Int) := by
  have := (a ^^^ b).toNat_lt
  show IntKind.u8.wrap ((BitVec.ofInt 8 (a.toNat : Int) ^^^ BitVec.ofInt 8 (b.toNat : Int)).toNat : Int) = _
  rw [BitVec.toNat_xor, ofInt8, ofInt8, ← UInt8.toNat_xor, IntKind.wrap_u8]; omega
theorem convT (x : List UInt8) (W : World) : (convert 9 47 (.string ⟨x.toArray⟩)).run Tryd.prog W = .ok (.slice (some ⟨W.heap.size, 0, none⟩) x.length (grownCap W x.length 0 5)) (Lib.bytesWorld W 5 ⟨x.toArray⟩) :=
  Lib.run_convert_string_bytes (P := Tryd.prog) W 9 47 5 ⟨x.toArray⟩ (u := .string) Tryd.underlying9 Tryd.underlying47 Tryd.underlying5
theorem bytesB (W : World) (x : List UInt8) : Below W.heap.size W (Lib.bytesWorld W 5 ⟨x.toArray⟩) :=
  ⟨rfl, rfl, rfl, by rw [Lib.bytesWorld_size]; omega, fun k hk => Lib.bytesWorld_at_old W 5 ⟨x.toArray⟩ k hk⟩
theorem bytesA (W : World) (x : List UInt8) : Arr (Lib.bytesWorld W 5 ⟨x.toArray⟩) W.heap.size x.length (x.map bv) := by
  refine ⟨by simp, fun j u hu => ?_, fun j hj => ?_⟩
  · have hj : j < x.length := by
      have := (List.getElem?_eq_some_iff.1 hu).1
      simpa using this
    rw [Lib.bytesWorld_cell W 5 ⟨x.toArray⟩ j (by rw [sizeS]; exact hj)]
    simp [hj] at hu
    simp [List.getD, hj, ← hu, bv]
  · unfold World.frozen?
    rw [Lib.bytesWorld_at_new]
    have hs := sizeS x
    simp [Lib.bytesCells]
    omega

/-- The bytes of x up to p, then those of t. -/
def mix (x t : List UInt8) (p : Nat) : List UInt8 := x.take p ++ t.drop p
theorem mix_zero (x t : List UInt8) : mix x t 0 = t := by simp [mix]
theorem mix_all {x t : List UInt8} {p : Nat} (h : x.length = t.length) (hp : t.length ≤ p) : mix x t p = x := by
  unfold mix
  rw [List.take_of_length_le (by omega), List.drop_of_length_le hp, List.append_nil]
theorem mix_length {x t : List UInt8} (h : x.length = t.length) (p : Nat) : (mix x t p).length = t.length := by
  unfold mix
  rw [List.length_append, List.length_take, List.length_drop]; omega
theorem mix_at {x t : List UInt8} {p : Nat} (h : x.length = t.length) (hp : p < t.length) : (mix x t p)[p]? = t[p]? := by
  unfold mix
  rw [List.getElem?_append_right (by rw [List.length_take]; omega), List.length_take, show p - min p x.length = 0 by omega, List.getElem?_drop, Nat.add_zero]
theorem mix_set {x t : List UInt8} {p : Nat} {c : UInt8} (h : x.length = t.length) (hp : p < t.length) (hc : x[p]? = some c) : (mix x t p).set p c = mix x t (p + 1) := by
  unfold mix
  rw [List.set_append_right _ _ (by rw [List.length_take]; omega), List.length_take, show p - min p x.length = 0 by omega, List.drop_eq_getElem_cons hp, List.set_cons_zero, List.take_add_one, hc]
  simp

/-- The state lies in block gs, the bytes so far in block go. -/
structure XorS (w W : World) (gs go n : Nat) (l : List Nat) (bs : List UInt8) : Prop where
  st : Arr W gs 16 (l.map wv)
  out : Arr W go n (bs.map bv)
  far : w.heap.size ≤ gs
  ord : gs < go
  lt : go < W.heap.size
  below : Below w.heap.size w W
theorem XorS.on {w W W2 : World} {gs go n : Nat} {l : List Nat} {bs : List UInt8} (h : XorS w W gs go n l bs) (hb : Below W.heap.size W W2) : XorS w W2 gs go n l bs :=
  ⟨h.st.below hb (by have := h.ord; have := h.lt; omega), h.out.below hb h.lt, h.far, h.ord, Nat.lt_of_lt_of_le h.lt hb.size, bcj h.below hb⟩
theorem XorS.drew {w W : World} {gs go n : Nat} {l : List Nat} {bs : List UInt8} (h : XorS w W gs go n l bs) : XorS w W.drew gs go n l bs := ⟨h.st.drew 1, h.out.drew 1, h.far, h.ord, h.lt, h.below.drew⟩
theorem xorS_start {w W : World} {gs : Nat} {l : List Nat} (h : HasS w W gs l) (hg : w.heap.size ≤ gs) (x : List UInt8) : XorS w (Lib.bytesWorld W 5 ⟨x.toArray⟩) gs W.heap.size x.length l x :=
  ⟨h.arr.below (bytesB W x) (h.arr.size (by omega)), bytesA W x, hg, h.arr.size (by omega), by rw [Lib.bytesWorld_size]; omega, bcj h.below (bytesB W x)⟩
theorem XorS.put {w W : World} {gs go n p : Nat} {l : List Nat} {x t : List UInt8} {c : UInt8} (h : XorS w W gs go n l (mix x t p)) (hx : x.length = t.length) (hn : t.length = n) (hp : p < n) (hc : x[p]? = some c) :
    XorS w (W.setCell ⟨go, p, none⟩ (.int .u8 (c.toNat : Int))) gs go n l (mix x t (p + 1)) := by
  have ho := h.out.set (i := p) hp (bv c)
  rw [← List.map_set, mix_set hx (by omega) hc] at ho
  have hf := h.far
  have hord := h.ord
  exact ⟨h.st.other (by omega) _, ho, hf, hord, by have := h.lt; simpa using this, h.below.setCell (by simp; omega) _⟩
theorem start_next (key nonce : List UInt8) (c d : Nat) : (start key c nonce).set 12 d = start key d nonce := by
  unfold start
  rw [List.append_assoc, List.set_append_right _ _ (by simp [sigma, words_length])]
  simp [sigma, words_length]
theorem XorS.next {w W : World} {gs go n : Nat} {key nonce : List UInt8} {c : Nat} {bs : List UInt8} (h : XorS w W gs go n (start key c nonce) bs) (d : Nat) : XorS w (W.setCell ⟨gs, 12, none⟩ (.int .u32 (d : Int))) gs go n (start key d nonce) bs := by
  have hs := h.st.set (i := 12) (by omega) (wv d)
  rw [← List.map_set, start_next] at hs
  have hf := h.far
  have hord := h.ord
  exact ⟨hs, h.out.other (by omega) _, hf, hord, by have := h.lt; simpa using this, h.below.setCell (by simp; omega) _⟩
theorem start_ctr {w W : World} {gs go n : Nat} {key nonce : List UInt8} {c : Nat} {bs : List UInt8} (h : XorS w W gs go n (start key c nonce) bs) : W.cell? ⟨gs, 12, none⟩ = some (.int .u32 (c : Int)) ∧ W.frozen? ⟨gs, 12, none⟩ = false := by
  refine h.st.at_ (i := 12) (u := wv c) ?_
  unfold start
  rw [List.map_append, List.map_append, List.getElem?_append_left (by simp [sigma, words_length]), List.getElem?_append_right (by simp [sigma, words_length])]
  simp [sigma, words_length]
/-- The stream's byte within a block. -/
theorem xor_in {key nonce text : List UInt8} {ctr k i : Nat} {x : UInt8} (hi : i < 64) (hx : text[64 * k + i]? = some x) : (xor key ctr nonce text)[64 * k + i]? = some (x ^^^ (blk (start key ((ctr + k) % 4294967296) nonce)).getD i 0) := by
  rw [xor_at hx]
  unfold ks
  rw [show (64 * k + i) / 64 = k by omega, show (64 * k + i) % 64 = i by omega]
/-- .. and the bytes of a block in block gb. -/
structure InS (w W : World) (gs go gb n : Nat) (l : List Nat) (bs K : List UInt8) : Prop where
  x : XorS w W gs go n l bs
  b : Arr W gb 64 (K.map bv)
  ord : go < gb
theorem InS.drew {w W : World} {gs go gb n : Nat} {l : List Nat} {bs K : List UInt8} (h : InS w W gs go gb n l bs K) : InS w W.drew gs go gb n l bs K := ⟨h.x.drew, h.b.drew 1, h.ord⟩
theorem InS.put {w W : World} {gs go gb n p : Nat} {l : List Nat} {x t K : List UInt8} {c : UInt8} (h : InS w W gs go gb n l (mix x t p) K) (hx : x.length = t.length) (hn : t.length = n) (hp : p < n) (hc : x[p]? = some c) :
    InS w (W.setCell ⟨go, p, none⟩ (.int .u8 (c.toNat : Int))) gs go gb n l (mix x t (p + 1)) K := ⟨h.x.put hx hn hp hc, h.b.other (by have := h.ord; omega) _, h.ord⟩
theorem inS_new {w W : World} {gs go n : Nat} {l : List Nat} {bs : List UInt8} (h : XorS w W gs go n l bs) (K : List UInt8) (hK : K.length = 64) (t : TypeId) : InS w ((W.alloc (.cells z64 t)).setCells W.heap.size 0 (K.map bv).toArray.toList) gs go W.heap.size n l bs K :=
  have hn := new64 (W := W) K hK t
  ⟨h.on hn.2, hn.1, h.lt⟩

end Cha
end Go.Proofs.YtdlcoajjhcbffaaDoor
