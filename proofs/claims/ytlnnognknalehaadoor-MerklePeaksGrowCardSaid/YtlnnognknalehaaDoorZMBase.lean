/- Digests and lists of digests in memory, for the proofs over the package merkle; the tables of both hashes; the hash inputs of trees. No condition. -/
import Derived.Test.YtlnnognknalehaaDoorZHRefOf
import Derived.Test.YtlnnognknalehaaDoorZHOf
import Derived.Test.YtlnnognknalehaaDoorZHRefT
import Derived.Test.YtlnnognknalehaaDoorZHSepI
import Derived.Test.YtlnnognknalehaaDoorM5
import Derived.Test.YtlnnognknalehaaDoorZQTail
import Derived.Lib.TrailingZeros
namespace Go.Proofs.YtlnnognknalehaaDoor
open Go.RowKit
namespace Mk
open Wire (bv Lies bytes_one)
open Hash (Table GivesA ofIn ofDig sha)

/-- A digest as a value. -/
def dv (d : List UInt8) : Value := .agg (d.map bv).toArray
def cellsD (l : List (List UInt8)) : List Value := l.flatMap (·.map bv)
def Ok (l : List (List UInt8)) : Prop := ∀ d ∈ l, d.length = 16
theorem Ok.at_ {l : List (List UInt8)} (h : Ok l) {j : Nat} {d : List UInt8} (hd : l[j]? = some d) : d.length = 16 := h d (List.mem_of_getElem? hd)
theorem Ok.take {l : List (List UInt8)} (h : Ok l) (k : Nat) : Ok (l.take k) := fun d hd => h d (List.mem_of_mem_take hd)
theorem Ok.drop {l : List (List UInt8)} (h : Ok l) (k : Nat) : Ok (l.drop k) := fun d hd => h d (List.mem_of_mem_drop hd)
theorem Ok.append {l m : List (List UInt8)} (h : Ok l) (g : Ok m) : Ok (l ++ m) := fun d hd => (List.mem_append.1 hd).elim (h d) (g d)
theorem Ok.one {d : List UInt8} (h : d.length = 16) : Ok [d] := fun e he => by rw [List.mem_singleton.1 he]; exact h
theorem ok_nil : Ok [] := fun _ h => by cases h
theorem cellsD_append (l m : List (List UInt8)) : cellsD (l ++ m) = cellsD l ++ cellsD m := by simp [cellsD]
theorem cellsD_one (d : List UInt8) : cellsD [d] = d.map bv := by simp [cellsD]
theorem cellsD_length {l : List (List UInt8)} (h : Ok l) : (cellsD l).length = l.length * 16 := by
  induction l with
  | nil => rfl
  | cons d l ih =>
    have h1 := h d (List.mem_cons_self ..)
    have h2 := ih fun e he => h e (List.mem_cons_of_mem _ he)
    have : cellsD (d :: l) = d.map bv ++ cellsD l := rfl
    rw [this, List.length_append, List.length_map, h1, h2, List.length_cons]
    omega
theorem cellsD_at {l : List (List UInt8)} (h : Ok l) {j : Nat} {d : List UInt8} (hd : l[j]? = some d) {i : Nat} {u : Value} (hu : (d.map bv)[i]? = some u) : (cellsD l)[j * 16 + i]? = some u := by
  induction l generalizing j with
  | nil => cases hd
  | cons e l ih =>
    have h1 := h e (List.mem_cons_self ..)
    have h2 : Ok l := fun f hf => h f (List.mem_cons_of_mem _ hf)
    have hc : cellsD (e :: l) = e.map bv ++ cellsD l := rfl
    rw [hc]
    cases j with
    | zero =>
      cases hd
      have := (List.getElem?_eq_some_iff.1 hu).1
      rw [Nat.zero_mul, Nat.zero_add, List.getElem?_append_left this]
      exact hu
    | succ j =>
      rw [List.getElem?_append_right (by rw [List.length_map, h1]; omega), List.length_map, h1, show (j + 1) * 16 + i - 16 = j * 16 + i by omega]
      exact ih h2 hd
theorem cellsD_take {l : List (List UInt8)} (h : Ok l) (k : Nat) : cellsD (l.take k) = (cellsD l).take (k * 16) := by
  induction l generalizing k with
  | nil => simp [cellsD]
  | cons e l ih =>
    have h1 := h e (List.mem_cons_self ..)
    have h2 : Ok l := fun f hf => h f (List.mem_cons_of_mem _ hf)
    have hc : ∀ m, cellsD (e :: m) = e.map bv ++ cellsD m := fun _ => rfl
    cases k with
    | zero => simp [cellsD]
    | succ k =>
      have e1 : (e.map bv).take ((k + 1) * 16) = e.map bv := List.take_of_length_le (by rw [List.length_map, h1]; omega)
      rw [List.take_succ_cons, hc, hc, ih h2, List.take_append, e1, List.length_map, h1, show (k + 1) * 16 - 16 = k * 16 by omega]
theorem cellsD_drop {l : List (List UInt8)} (h : Ok l) (k : Nat) : cellsD (l.drop k) = (cellsD l).drop (k * 16) := by
  induction l generalizing k with
  | nil => simp [cellsD]
  | cons e l ih =>
    have h1 := h e (List.mem_cons_self ..)
    have h2 : Ok l := fun f hf => h f (List.mem_cons_of_mem _ hf)
    have hc : ∀ m, cellsD (e :: m) = e.map bv ++ cellsD m := fun _ => rfl
    cases k with
    | zero => simp
    | succ k =>
      have e1 : (e.map bv).drop ((k + 1) * 16) = [] := List.drop_eq_nil_of_le (by rw [List.length_map, h1]; omega)
      rw [List.drop_succ_cons, hc, ih h2, List.drop_append, e1, List.nil_append, List.length_map, h1, show (k + 1) * 16 - 16 = k * 16 by omega]

/-- A slice that reads as a list of digests. -/
structure LiesD (w : World) (B : Nat) (A : Option Addr) (n c : Nat) (l : List (List UInt8)) : Prop where
  lies : Lies w B 16 A n c (cellsD l)
  ok : Ok l
section
variable {w w' : World} {B n c : Nat} {A : Option Addr} {l : List (List UInt8)}
theorem LiesD.len (h : LiesD w B A n c l) : l.length = n := by
  have := h.lies.len
  rw [cellsD_length h.ok] at this
  omega
theorem LiesD.below (h : LiesD w B A n c l) (hb : Below B w w') : LiesD w' B A n c l := ⟨h.lies.below hb, h.ok⟩
theorem LiesD.more {B' : Nat} (h : LiesD w B A n c l) (hb : B ≤ B') : LiesD w B' A n c l := ⟨h.lies.more hb, h.ok⟩
theorem LiesD.on (h : LiesD w w.heap.size A n c l) (hb : Below w.heap.size w w') : LiesD w' w'.heap.size A n c l := (h.below hb).more hb.size
theorem LiesD.row (h : LiesD w B A n c l) {j : Nat} {d : List UInt8} (hd : l[j]? = some d) : ∃ b o, A = some ⟨b, o, none⟩ ∧ b < B ∧ w.rangeAt b (o + j * 16) (d.map bv) := by
  have hj : j < l.length := (List.getElem?_eq_some_iff.1 hd).1
  have hn := h.len
  obtain ⟨b, o, e, hb, hc⟩ := h.lies.cells (by omega)
  refine ⟨b, o, e, hb, fun i u hu => ?_⟩
  rw [Nat.add_assoc]
  exact hc _ u (cellsD_at h.ok hd hu)
theorem LiesD.take (h : LiesD w B A n c l) {k : Nat} (hk : k ≤ n) : LiesD w B A k c (l.take k) := by
  have hn := h.len
  have ho := h.ok.take k
  refine ⟨⟨?_, by have := h.lies.le; omega, h.lies.most, h.lies.some_, fun hp => ?_⟩, ho⟩
  · rw [cellsD_length ho, List.length_take]; omega
  · obtain ⟨b, o, e, hb, hc⟩ := h.lies.cells (by omega)
    refine ⟨b, o, e, hb, fun j u hu => hc j u ?_⟩
    rw [cellsD_take h.ok, List.getElem?_take] at hu
    split at hu
    · exact hu
    · cases hu
theorem LiesD.drop {b o : Nat} (h : LiesD w B (some ⟨b, o, none⟩) n c l) {k : Nat} (hk : k ≤ n) : LiesD w B (some ⟨b, o + k * 16, none⟩) (n - k) (c - k) (l.drop k) := by
  have hn := h.len
  have hle := h.lies.le
  have hm := h.lies.most
  have ho := h.ok.drop k
  refine ⟨⟨?_, by omega, by omega, fun _ => ⟨_, _, rfl⟩, fun hp => ?_⟩, ho⟩
  · rw [cellsD_length ho, List.length_drop]; omega
  · obtain ⟨b', o', e, hb, hc⟩ := h.lies.cells (by omega)
    simp only [Option.some.injEq, Addr.mk.injEq, and_true] at e
    obtain ⟨rfl, rfl⟩ := e
    refine ⟨b, o + k * 16, rfl, hb, fun j u hu => ?_⟩
    rw [cellsD_drop h.ok, List.getElem?_drop] at hu
    rw [Nat.add_assoc]
    exact hc _ u hu
theorem liesD_nil (w : World) (B : Nat) (A : Option Addr) : LiesD w B A 0 0 [] := ⟨⟨by simp [cellsD], Nat.le_refl _, Nat.zero_le _, fun h => absurd h (Nat.lt_irrefl 0), fun h => absurd h (Nat.lt_irrefl 0)⟩, ok_nil⟩
end

/-- The table of trailing zeros is there. -/
def Tab64 (w : World) : Prop := ∀ j, j < Lib.deBruijn64tab.length → w.cell? ⟨2, j, none⟩ = some (.int .u8 (Lib.deBruijn64tab.getD j 0))
theorem Tab64.size {w : World} (h : Tab64 w) : 2 < w.heap.size := World.block_lt_of_cell? w _ (h 0 (by decide))
theorem Tab64.below {w w' : World} {B : Nat} (h : Tab64 w) (hb : Below B w w') (hB : 2 < B) : Tab64 w' := fun j hj => (World.cell?_of_block (hb.block _ hB)).trans (h j hj)
/-- The tables that the package reads are there. -/
structure TP (w : World) : Prop where
  a : Table 3 w
  c : Tab64 w
theorem TP.on {w w' : World} (h : TP w) (hb : Below w.heap.size w w') : TP w' := ⟨h.a.below hb h.a.size, h.c.below hb h.c.size⟩
/-- The tables that the package and its reference read are there. -/
structure TT (w : World) : Prop where
  p : TP w
  b : Table 0 w
theorem TT.on {w w' : World} (h : TT w) (hb : Below w.heap.size w w') : TT w' := ⟨h.p.on hb, h.b.below hb h.b.size⟩

/-- The hash inputs of trees of digests. -/
def HH : Hasher (List UInt8) (List UInt8) := { li := fun d => ofIn 1 [d], ni := fun a b => ofIn 2 [a, b], sh := fun x => (sha x).take 16, nil := ofDig 1 [] }
theorem sh_length (x : List UInt8) : (HH.sh x).length = 16 := by
  show ((sha x).take 16).length = 16
  rw [List.length_take, Hash.sha_length]
  rfl
theorem leaf_length (d : List UInt8) : (HH.leaf d).length = 16 := sh_length _
theorem node_length (a b : List UInt8) : (HH.node a b).length = 16 := sh_length _
theorem nil_length : (HH.nil).length = 16 := sh_length (ofIn 1 [])
theorem root_length (l : List (List UInt8)) : (root HH l).length = 16 := by
  rw [root]
  split
  · exact node_length _ _
  · cases l with
    | nil => exact nil_length
    | cons d l => exact leaf_length d
theorem clear_HH : Clear HH (fun d => d.length = 16) := by
  refine ⟨fun a b ha hb h => ?_, fun a b c d ha hb hc hd h => ?_, sh_length⟩
  · have h2 := (Hash.ofIn_inj (t0 := 1) (t1 := 1) (by omega) (by omega) (a := [a]) (b := [b]) (by intro s hs; rw [List.mem_singleton.1 hs]; omega) (by intro s hs; rw [List.mem_singleton.1 hs]; omega) h).2
    exact (List.cons.inj h2).1
  · have h2 := (Hash.ofIn_inj (t0 := 2) (t1 := 2) (by omega) (by omega) (a := [a, b]) (b := [c, d])
      (by intro s hs; rcases List.mem_cons.1 hs with rfl | hs; omega; rw [List.mem_singleton.1 hs]; omega) (by intro s hs; rcases List.mem_cons.1 hs with rfl | hs; omega; rw [List.mem_singleton.1 hs]; omega) h).2
    obtain ⟨e1, e2⟩ := List.cons.inj h2
    exact ⟨e1, (List.cons.inj e2).1⟩
end Mk
end Go.Proofs.YtlnnognknalehaaDoor
