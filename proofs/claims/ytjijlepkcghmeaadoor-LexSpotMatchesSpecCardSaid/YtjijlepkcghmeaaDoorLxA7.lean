/- Package lex: number. Condition: the text is of at most 2^20 bytes; the table of units is laid. -/
import Derived.Test.YtjijlepkcghmeaaDoorLxA6
namespace Go.Proofs.YtjijlepkcghmeaaDoor
open Go.RowKit
namespace Lx
open Wire (bv sv)
open Hash (Arr)

/-- A token and an error number are returned; the memory that was there is as it was. -/
def GivesT2 (v : Value × Nat) (w : World) (e : Ending) (w' : World) : Prop := e = .returned (.tuple #[v.1, .int .i64 (v.2 : Int)]) ∧ Below w.heap.size w w'
def zeroT : Value := .agg #[.int .i64 0, .string ⟨#[]⟩, .int .i64 0, .int .i64 0]
/-- What number answers. -/
def numV (t : List UInt8) (i : Nat) : Value × Nat :=
  match num (t.drop i) with
  | none => (zeroT, 3)
  | some (m, n) => if 1099511627776 < n then (zeroT, 2) else (tokv 2 ((t.drop i).take m) n i, 0)
section
variable {t : List UInt8} {i : Nat}
theorem numV_zero (h : 1 < dlen (t.drop i) ∧ hd (t.drop i) = 48) : numV t i = (zeroT, 3) := by
  unfold numV num; rw [if_pos h]
theorem numV_ubad (h : ¬ (1 < dlen (t.drop i) ∧ hd (t.drop i) = 48)) (hu : 0 < unit (hd ((t.drop i).drop (dlen (t.drop i))))) (hp : isW (hd ((t.drop i).drop (dlen (t.drop i) + 1))) = true) : numV t i = (zeroT, 3) := by
  unfold numV num; rw [if_neg h, if_pos hu, if_pos hp]
theorem numV_ubig (h : ¬ (1 < dlen (t.drop i) ∧ hd (t.drop i) = 48)) (hu : 0 < unit (hd ((t.drop i).drop (dlen (t.drop i))))) (hp : ¬ isW (hd ((t.drop i).drop (dlen (t.drop i) + 1))) = true)
    (hb : 1099511627776 < val 0 (t.drop i) * unit (hd ((t.drop i).drop (dlen (t.drop i))))) : numV t i = (zeroT, 2) := by
  unfold numV num; rw [if_neg h, if_pos hu, if_neg hp]
  exact if_pos (by show 1099511627776 < min _ 1099511627777; omega)
theorem numV_uok (h : ¬ (1 < dlen (t.drop i) ∧ hd (t.drop i) = 48)) (hu : 0 < unit (hd ((t.drop i).drop (dlen (t.drop i))))) (hp : ¬ isW (hd ((t.drop i).drop (dlen (t.drop i) + 1))) = true)
    (hb : ¬ 1099511627776 < val 0 (t.drop i) * unit (hd ((t.drop i).drop (dlen (t.drop i))))) : numV t i = (tokv 2 ((t.drop i).take (dlen (t.drop i) + 1)) (val 0 (t.drop i) * unit (hd ((t.drop i).drop (dlen (t.drop i))))) i, 0) := by
  unfold numV num; rw [if_neg h, if_pos hu, if_neg hp]
  have e : min (val 0 (t.drop i) * unit (hd ((t.drop i).drop (dlen (t.drop i))))) cap = val 0 (t.drop i) * unit (hd ((t.drop i).drop (dlen (t.drop i)))) := by unfold cap; omega
  rw [e]
  exact if_neg hb
theorem numV_bad (h : ¬ (1 < dlen (t.drop i) ∧ hd (t.drop i) = 48)) (hu : ¬ 0 < unit (hd ((t.drop i).drop (dlen (t.drop i))))) (hp : isW (hd ((t.drop i).drop (dlen (t.drop i)))) = true) : numV t i = (zeroT, 3) := by
  unfold numV num; rw [if_neg h, if_neg hu, if_pos hp]
theorem numV_big (h : ¬ (1 < dlen (t.drop i) ∧ hd (t.drop i) = 48)) (hu : ¬ 0 < unit (hd ((t.drop i).drop (dlen (t.drop i))))) (hp : ¬ isW (hd ((t.drop i).drop (dlen (t.drop i)))) = true)
    (hb : 1099511627776 < val 0 (t.drop i)) : numV t i = (zeroT, 2) := by
  unfold numV num; rw [if_neg h, if_neg hu, if_neg hp]
  exact if_pos hb
theorem numV_ok (h : ¬ (1 < dlen (t.drop i) ∧ hd (t.drop i) = 48)) (hu : ¬ 0 < unit (hd ((t.drop i).drop (dlen (t.drop i))))) (hp : ¬ isW (hd ((t.drop i).drop (dlen (t.drop i)))) = true)
    (hb : ¬ 1099511627776 < val 0 (t.drop i)) : numV t i = (tokv 2 ((t.drop i).take (dlen (t.drop i))) (val 0 (t.drop i)) i, 0) := by
  unfold numV num; rw [if_neg h, if_neg hu, if_neg hp]
  exact if_neg hb
end
theorem val_cap : ∀ (s : List UInt8) (n : Nat), n ≤ cap → val n s ≤ cap
  | [], n, h => h
  | c :: r, n, h => by
    rw [val]
    split
    · exact val_cap r _ (Nat.min_le_right _ _)
    · exact h
/-- What stands in number: the text's box, the result's block, the value's box. -/
structure Nu (w : World) (T : ByteArray) (v : Value) (k : Int) (x : ByteArray) (n i : Int) (W : World) : Prop where
  tx : W.cell? ⟨w.heap.size, 0, none⟩ = some (.string T)
  r : Arr W (w.heap.size + 1) 4 [.int .i64 k, .string x, .int .i64 n, .int .i64 i]
  c : Arr W (w.heap.size + 1 + 1) 1 [v]
  z : Below w.heap.size w W
  u : Units W
theorem Nu.on {w W W' : World} {T x : ByteArray} {v : Value} {k n i : Int} (h : Nu w T v k x n i W) (hb : Below W.heap.size W W') : Nu w T v k x n i W' :=
  ⟨(hb.cell (World.block_lt_of_cell? W _ h.tx)).trans h.tx, h.r.below hb (h.r.size (by decide)), h.c.below hb (h.c.size (by decide)), Wire.bc h.z hb, h.u.on hb⟩
theorem Units.cells {W : World} (h : Units W) {g : Nat} (hg : ¬ 1 = g) (vs : List Value) : Units (W.setCells g 0 vs) := fun j u hu => (World.cell?_setCells_out g vs 0 W _ (fun e => absurd e hg)).trans (h j u hu)
theorem Nu.putC {w W : World} {T x : ByteArray} {v : Value} {k n i : Int} (h : Nu w T v k x n i W) (hu : Units w) (v' : Value) : Nu w T v' k x n i (W.setCells (w.heap.size + 1 + 1) 0 [v']) :=
  ⟨(World.cell?_setCells_out _ _ _ _ _ (fun e => by have : w.heap.size = w.heap.size + 1 + 1 := e; omega)).trans h.tx, h.r.aside (by omega) _, h.c.over rfl, h.z.trans (Hash.below_cells (by omega) _ _ _), h.u.cells (by have := hu.size; omega) _⟩
theorem Nu.putR {w W : World} {T x : ByteArray} {v : Value} {k n i : Int} (h : Nu w T v k x n i W) (hu : Units w) (k' n' i' : Int) (x' : ByteArray) : Nu w T v k' x' n' i' (W.setCells (w.heap.size + 1) 0 [.int .i64 k', .string x', .int .i64 n', .int .i64 i']) :=
  ⟨(World.cell?_setCells_out _ _ _ _ _ (fun e => by have : w.heap.size = w.heap.size + 1 := e; omega)).trans h.tx, h.r.over rfl, h.c.aside (by omega) _, h.z.trans (Hash.below_cells (by omega) _ _ _), h.u.cells (by have := hu.size; omega) _⟩

/-- run at number's closure. -/
theorem runNumber_any (t : List UInt8) (hl : t.length ≤ 1048576) (i : Nat) (hi : i ≤ t.length) (w : World) (hu : Units w) :
    Calls Tryd.prog 24 #[.string ⟨t.toArray⟩, .int .i64 (i : Int), .func (.func 47) #[] #[.pointer (some ⟨w.heap.size, 0, none⟩), .pointer (some ⟨w.heap.size + 1 + 1, 0, none⟩)]]
      (((w.alloc (.cells #[.string ⟨t.toArray⟩] 9)).alloc (.cells #[.int .i64 0, .string ⟨#[]⟩, .int .i64 0, .int .i64 0] 36)).alloc (.cells #[.int .i64 0] 3))
      (fun e w' => e = .returned (.int .i64 ((i + dlen (t.drop i) : Nat) : Int)) ∧ Nu w ⟨t.toArray⟩ (.int .i64 (val 0 (t.drop i) : Int)) 0 ⟨#[]⟩ 0 0 w') := by
  obtain ⟨w0, hw0⟩ : ∃ w0, w0 = (w.alloc (.cells #[.string ⟨t.toArray⟩] 9)).alloc (.cells #[.int .i64 0, .string ⟨#[]⟩, .int .i64 0, .int .i64 0] 36) := ⟨_, rfl⟩
  have hsz : w0.heap.size = w.heap.size + 1 + 1 := by rw [hw0, World.size_alloc, World.size_alloc]
  have h1 := Hash.arr_new w #[.string ⟨t.toArray⟩] 9
  have h2 := Hash.arr_new (w.alloc (.cells #[.string ⟨t.toArray⟩] 9)) #[.int .i64 0, .string ⟨#[]⟩, .int .i64 0, .int .i64 0] 36
  have h3 := (h1.alloc (by rw [World.size_alloc]; exact Nat.lt_succ_self _) (.cells #[.int .i64 0, .string ⟨#[]⟩, .int .i64 0, .int .i64 0] 36)).at_ (i := 0) rfl
  rw [World.size_alloc] at h2
  have hz : Below w.heap.size w w0 := by rw [hw0]; exact Wire.bc (Wire.b1 _ _) (Wire.b1 _ _)
  have hu0 : Units w0 := hu.on hz
  rw [← hw0] at h2 h3 ⊢
  rw [← hsz]
  have hB : Bx w0 (.int .i64 ((0 : Nat) : Int)) (w0.alloc (.cells #[.int .i64 0] 3)) := ⟨Hash.arr_new w0 #[.int .i64 0] _, Wire.b1 _ _⟩
  refine (run_number (fun W n => n ≤ cap ∧ Bx w0 (.int .i64 (n : Int)) W) (goN t) t hl (.pointer (some ⟨w.heap.size, 0, none⟩)) (.pointer (some ⟨w0.heap.size, 0, none⟩)) (fun k n W hk h => ?_) i 0 _ hi ⟨Nat.zero_le _, hB⟩).mono fun e w' ⟨he, hw⟩ => ?_
  · refine (cloN_any t w.heap.size w0 h3.1 k n W hk h.1 h.2).mono fun e w' ⟨he, hb⟩ => ⟨he, ?_, hb⟩
    unfold goN
    split
    · exact Nat.min_le_right _ _
    · exact h.1
  · rw [runN t _ i 0 hi rfl] at he hw
    have hb := hw.2
    have hlt : w.heap.size < w0.heap.size := by omega
    exact ⟨he, ⟨(hb.z.cell hlt).trans h3.1, h2.below hb.z (by omega), by rw [← hsz]; exact hb.cm, hz.trans (hb.z.mono (by omega)), hu0.on hb.z⟩⟩
end Lx
end Go.Proofs.YtjijlepkcghmeaaDoor
