/- Slices that read as lists, and small words on memory, for the proofs over the package wire. No condition. -/
import Derived.Test.YtjijlepkcghmeaaDoorProg
import Derived.Test.YtjijlepkcghmeaaDoorNum
import Derived.WalkKit
import Derived.WalkSpells
import Derived.WalkLawsBesides
import Derived.OwnWalk
import Derived.Lib.Hide
import Derived.Lib.AppendStr
import Derived.Laws.BytesArg
namespace Go.Proofs.YtjijlepkcghmeaaDoor
open Go.RowKit
namespace Wire

/-- A byte as a cell holds it. -/
def bv (c : UInt8) : Value := .int .u8 (c.toNat : Int)
theorem bv_one (c : UInt8) : (bv c).oneCell' = true := rfl

theorem own_form {w : World} {base : Nat} {e : TypeId} {size n : Nat} {v : Value} {xs : List Value} (h : w.ownsRow base e size v n xs) (hn : 0 < n) :
    ∃ g cap, v = .slice (some ⟨g, 0, none⟩) n cap ∧ base ≤ g ∧ g < w.heap.size ∧ n ≤ cap ∧ cap ≤ maxLen := by
  rcases h.2 with ⟨_, h0⟩ | ⟨g, cap, cur, rfl, hb, hg, hc, hm, _⟩
  · omega
  · exact ⟨g, cap, rfl, hb, (Array.getElem?_eq_some_iff.1 hg).1, hc, hm⟩

theorem two_pow_shift (j : Nat) (s : Int) (hs : s = 8 * ((j + 1 : Nat) : Int) - 8) (m : Nat) : (m : Int) / 2 ^ s.toNat = ((m / 256 ^ j : Nat) : Int) := by
  have h : s.toNat = 8 * j := by omega
  have h2 : (256 : Nat) ^ j = 2 ^ (8 * j) := by rw [Nat.pow_mul]
  rw [h, h2]
  simp

theorem xor_zero : ∀ c : UInt8, bits .xor .u8 (c.toNat : Int) 0 = ((flip false c).toNat : Int) := by
  intro c
  have h : ∀ k : Fin 256, bits .xor .u8 ((k.val : Nat) : Int) 0 = (k.val : Int) := by decide +kernel
  exact h ⟨c.toNat, u8_lt c⟩
theorem xor_full : ∀ c : UInt8, bits .xor .u8 (c.toNat : Int) 255 = ((flip true c).toNat : Int) := by
  intro c
  have h : ∀ k : Fin 256, bits .xor .u8 ((k.val : Nat) : Int) 255 = ((255 - k.val : Nat) : Int) := by decide +kernel
  have := h ⟨c.toNat, u8_lt c⟩
  simpa [flip, sub_toNat] using this

theorem digs_step_skip {m j : Nat} (h : m / 256 ^ j % 256 = 0) (hl : digs (m / 256 ^ (j + 1)) = []) : digs (m / 256 ^ j) = [] := by
  rw [digs_nil] at hl ⊢
  rw [Nat.pow_succ, ← Nat.div_div_eq_div_mul] at hl
  omega
theorem digs_step {m j : Nat} (h : m / 256 ^ j % 256 ≠ 0 ∨ digs (m / 256 ^ (j + 1)) ≠ []) : digs (m / 256 ^ j) = digs (m / 256 ^ (j + 1)) ++ [UInt8.ofNat (m / 256 ^ j % 256)] := by
  have e : m / 256 ^ (j + 1) = m / 256 ^ j / 256 := by rw [Nat.pow_succ, ← Nat.div_div_eq_div_mul]
  rw [e] at h ⊢
  refine digs_pos ?_
  intro h0
  rw [h0] at h
  simp [digs_zero] at h

theorem fresh_one (w : World) (x : Value) (t : TypeId) : ∀ (j : Nat) (u : Value), [x][j]? = some u → (w.alloc (.cells #[x] t)).cell? ((⟨w.heap.size, 0, none⟩ : Addr).add j) = some u := by
  intro j u h
  cases j with
  | zero =>
    simp at h; subst h
    simp [Addr.add]
  | succ j => simp at h

theorem one_cell (x : UInt8) : ∀ u ∈ [bv x], u.oneCell' = true := by
  intro u hu; simp at hu; subst hu; rfl

theorem head_false {n k : Nat} (hn : n = 1 + k) (hk : k ≤ 8) : Value.int .u8 (bits .xor .u8 (128 + (n : Int) - 1) 0) = bv (head false k) := by
  have h : (128 + (n : Int) - 1) = ((UInt8.ofNat (128 + k)).toNat : Int) := by simp; omega
  rw [h, xor_zero]; rfl
theorem head_true {n k : Nat} (hn : n = 1 + k) (hk : k ≤ 8) : Value.int .u8 (bits .xor .u8 (128 + (n : Int) - 1) 255) = bv (head true k) := by
  have h : (128 + (n : Int) - 1) = ((UInt8.ofNat (128 + k)).toNat : Int) := by simp; omega
  rw [h, xor_full]
  unfold bv
  congr 2
  have h2 : flip true (UInt8.ofNat (128 + k)) = head true k := by
    apply UInt8.toNat_inj.1
    simp only [flip, head, if_true, sub_toNat]
    simp; omega
  rw [h2]
theorem head_stored {w : World} {B g n cap : Nat} {t : TypeId} {neg : Bool} {l : List UInt8} {u : Value} (hown : w.ownsRow B t 1 (.slice (some ⟨g, 0, none⟩) n cap) n (bv 0 :: l.map fun c => bv (flip neg c)))
    (hu : u = bv (head neg l.length)) : (w.setCell ⟨g, 0, none⟩ u).ownsRow B t 1 (.slice (some ⟨g, 0, none⟩) n cap) n ((head neg l.length :: l.map (flip neg)).map bv) := by
  subst hu
  have h := (hown.stored 0 (bv (head neg l.length))).1
  simpa [List.map_map, Function.comp_def] using h

/-- A slice that came in: what its cells hold; it lies below block B. -/
structure Lies (w : World) (B size : Nat) (A : Option Addr) (n c : Nat) (xs : List Value) : Prop where
  len : xs.length = n * size
  le : n ≤ c
  most : c ≤ maxLen
  some_ : 0 < c → ∃ b o, A = some ⟨b, o, none⟩
  cells : 0 < n → ∃ b o, A = some ⟨b, o, none⟩ ∧ b < B ∧ ∀ (j : Nat) (u : Value), xs[j]? = some u → w.cell? ⟨b, o + j, none⟩ = some u

theorem Lies.keep {w w' : World} {B size n c : Nat} {A : Option Addr} {xs : List Value} (h : Lies w B size A n c xs) (hk : ∀ p : Addr, p.block < B → w'.cell? p = w.cell? p) : Lies w' B size A n c xs :=
  ⟨h.len, h.le, h.most, h.some_, fun hn => let ⟨b, o, e, hb, hc⟩ := h.cells hn; ⟨b, o, e, hb, fun j u hu => (hk ⟨b, o + j, none⟩ hb).trans (hc j u hu)⟩⟩
theorem Lies.below {w w' : World} {B size n c : Nat} {A : Option Addr} {xs : List Value} (h : Lies w B size A n c xs) (hb : Below B w w') : Lies w' B size A n c xs := h.keep fun _ hp => hb.cell hp
theorem Lies.more {w : World} {B B' size n c : Nat} {A : Option Addr} {xs : List Value} (h : Lies w B size A n c xs) (hB : B ≤ B') : Lies w B' size A n c xs :=
  ⟨h.len, h.le, h.most, h.some_, fun hn => let ⟨b, o, e, hb, hc⟩ := h.cells hn; ⟨b, o, e, by omega, hc⟩⟩

theorem lies_own {w : World} {base g size n c : Nat} {e : TypeId} {xs : List Value} (h : w.ownsRow base e size (.slice (some ⟨g, 0, none⟩) n c) n xs) : Lies w w.heap.size size (some ⟨g, 0, none⟩) n c xs := by
  have hf := h
  rcases hf.2 with ⟨h0, _⟩ | ⟨g', cap, cur, he, hb, hg, hc, hm, _, _⟩
  · cases h0
  · simp only [Value.slice.injEq, Option.some.injEq, Addr.mk.injEq, and_true, true_and] at he
    obtain ⟨rfl, rfl⟩ := he
    refine ⟨h.1, hc, hm, fun _ => ⟨g, 0, rfl⟩, fun _ => ⟨g, 0, rfl, (Array.getElem?_eq_some_iff.1 hg).1, fun j u hu => ?_⟩⟩
    have hj : j < n * size := by rw [← h.1]; exact (List.getElem?_eq_some_iff.1 hu).1
    rw [Nat.zero_add, h.cellAt j hj, hu]

theorem Lies.cell {w : World} {B n c : Nat} {A : Option Addr} {bs : List UInt8} (h : Lies w B 1 A n c (bs.map bv)) {b o : Nat} (hA : A = some ⟨b, o, none⟩) (j : Nat) (x : UInt8) (hx : bs[j]? = some x) :
    w.cell? ⟨b, o + j, none⟩ = some (.int .u8 (x.toNat : Int)) := by
  have hl : j < bs.length := (List.getElem?_eq_some_iff.1 hx).1
  have hn := h.len
  simp at hn
  obtain ⟨b', o', e, _, hc⟩ := h.cells (by omega)
  rw [hA] at e
  simp only [Option.some.injEq, Addr.mk.injEq, and_true] at e
  obtain ⟨rfl, rfl⟩ := e
  exact hc j _ (by rw [List.getElem?_map, hx]; rfl)

theorem shl_or {m : Nat} {x : UInt8} (hm : m < 72057594037927936) : bits .or .u64 ((m : Int) * 256) (x.toNat : Int) = ((m * 256 + x.toNat : Nat) : Int) := by
  have hx := u8_lt x
  have hp : m * 256 + x.toNat < 2 ^ 64 := by omega
  have ho : m * 256 ||| x.toNat = m * 256 + x.toNat := by
    have := Nat.two_pow_add_eq_or_of_lt (i := 8) (b := x.toNat) (by omega) m
    rw [Nat.mul_comm m 256]; exact this.symm
  have e1 : ((m : Int) * 256) = ((m * 256 : Nat) : Int) := by omega
  rw [e1]
  show IntKind.u64.wrap ((BitVec.ofInt 64 ((m * 256 : Nat) : Int) ||| BitVec.ofInt 64 (x.toNat : Int)).toNat : Int) = _
  have h1 : (m * 256) % 2 ^ 64 = m * 256 := by omega
  have h2 : x.toNat % 2 ^ 64 = x.toNat := by omega
  rw [BitVec.toNat_or, BitVec.ofInt_natCast, BitVec.ofInt_natCast, BitVec.toNat_ofNat, BitVec.toNat_ofNat, h1, h2, ho]
  exact IntWalk.u64_in _ (by omega)

/-- A text as a value. -/
def sv (l : List UInt8) : Value := .string ⟨l.toArray⟩
theorem strOf (l : List UInt8) : Value.string (strOfNums (l.map fun c => (c.toNat : Int))) = sv l := by
  unfold sv strOfNums
  simp [List.map_map, Function.comp_def]

theorem own_below {w w' : World} {base : Nat} {e : TypeId} {size n : Nat} {v : Value} {xs : List Value} (h : w.ownsRow base e size v n xs) (hb : Below w.heap.size w w') : w'.ownsRow base e size v n xs := by
  refine ⟨h.1, ?_⟩
  rcases h.2 with h2 | ⟨g, cap, cur, hv, hg, hh, r⟩
  · exact .inl h2
  · exact .inr ⟨g, cap, cur, hv, hg, by rw [hb.block g (Array.getElem?_eq_some_iff.1 hh).1]; exact hh, r⟩
theorem own_more {w : World} {base base' : Nat} {e : TypeId} {size n : Nat} {v : Value} {xs : List Value} (h : w.ownsRow base e size v n xs) (hb : base' ≤ base) : w.ownsRow base' e size v n xs := by
  refine ⟨h.1, ?_⟩
  rcases h.2 with h2 | ⟨g, cap, cur, hv, hg, r⟩
  · exact .inl h2
  · exact .inr ⟨g, cap, cur, hv, by omega, r⟩
theorem bytes_one (l : List UInt8) : ∀ u ∈ l.map bv, u.oneCell' = true := by
  intro u hu
  obtain ⟨c, _, rfl⟩ := List.mem_map.1 hu
  rfl
theorem strCells_eq (s : ByteArray) : Lib.strCells s = s.data.toList.map bv := rfl

def iv (x : Int) : Value := .int .i64 x
theorem Lies.at_ {w : World} {B n c : Nat} {A : Option Addr} {xs : List Value} (h : Lies w B 1 A n c xs) {j : Nat} (hj : j < n) :
    ∃ b o u, A = some ⟨b, o, none⟩ ∧ b < B ∧ xs[j]? = some u ∧ w.cell? ⟨b, o + j, none⟩ = some u := by
  obtain ⟨b, o, e, hb, hc⟩ := h.cells (by omega)
  have hl : j < xs.length := by have := h.len; omega
  exact ⟨b, o, xs[j], e, hb, List.getElem?_eq_getElem hl, hc j _ (List.getElem?_eq_getElem hl)⟩

/-- The rest of a slice of bytes from a place within its capacity on. -/
theorem Lies.drop {w : World} {B n c b o : Nat} {bs : List UInt8} (h : Lies w B 1 (some ⟨b, o, none⟩) n c (bs.map bv)) {k : Nat} (hk : k ≤ n) :
    Lies w B 1 (some ⟨b, o + k, none⟩) (n - k) (c - k) ((bs.drop k).map bv) := by
  have hn := h.len
  simp at hn
  refine ⟨by simp; omega, by have := h.le; omega, by have := h.most; omega, fun _ => ⟨b, o + k, rfl⟩, fun hp => ?_⟩
  obtain ⟨b', o', e, hb, hc⟩ := h.cells (by omega)
  simp only [Option.some.injEq, Addr.mk.injEq, and_true] at e
  obtain ⟨rfl, rfl⟩ := e
  refine ⟨b, o + k, rfl, hb, fun j u hu => ?_⟩
  rw [Nat.add_assoc]
  refine hc (k + j) u ?_
  rw [← hu]; simp
theorem lies_empty (w : World) (B : Nat) (A : Option Addr) : Lies w B 1 A 0 0 (([] : List UInt8).map bv) :=
  ⟨rfl, by omega, by unfold maxLen; omega, fun h => absurd h (by omega), fun h => absurd h (by omega)⟩

end Wire
end Go.Proofs.YtjijlepkcghmeaaDoor
