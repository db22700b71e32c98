/- Dig; MBase; MDig; MRef; MRoot: what each of these parts proves stands ahead of it. -/
import Derived.Test.YthpkeaafgabjiaaDoorZHRefOf
import Derived.Test.YthpkeaafgabjiaaDoorZHOf
import Derived.Test.YthpkeaafgabjiaaDoorZQTail
import Derived.Test.YthpkeaafgabjiaaDoorZHRefT
import Derived.Test.YthpkeaafgabjiaaDoorZHSepI
import Derived.Test.YthpkeaafgabjiaaDoorM5
import Derived.Lib.TrailingZeros
/- A digest in a block of its own: loaded, stored, returned. No condition. -/
namespace Go.Proofs.YthpkeaafgabjiaaDoor
open Go.RowKit
namespace Mk
open Wire (bv sv Lies)
open Hash (Arr GivesA bcj)

/-- A digest as a value. -/
def dv (d : List UInt8) : Value := .agg (d.map bv).toArray
theorem und_d : Tryd.prog.underlying 29 = some (.array 16 5) := by kernel_rfl
theorem info_d {d : List UInt8} (h : d.length = 16) : (Tryd.prog.info? 29).map (·.size) = some (d.map bv).length := by
  rw [List.length_map, h]; kernel_rfl
theorem info_dA {d : List UInt8} (h : d.length = 16) : (Tryd.prog.info? 29).map (·.size) = some (d.map bv).toArray.size := by
  rw [List.size_toArray]; exact info_d h
theorem one_d (d : List UInt8) : ((d.map bv).toArray).all (·.oneCell') = true := all_oneCell_toArray (fun v hv => by
  obtain ⟨c, _, rfl⟩ := List.mem_map.1 hv; rfl)
/-- A digest lies in a block of its own. -/
structure Dg (W : World) (g : Nat) (d : List UInt8) : Prop where
  arr : Arr W g 16 (d.map bv)
section
variable {W W' : World} {g : Nat} {d e : List UInt8}
theorem Dg.len (h : Dg W g d) : d.length = 16 := by have := h.arr.len; simpa using this
theorem Dg.lt (h : Dg W g d) : g < W.heap.size := h.arr.size (by omega)
theorem Dg.on (h : Dg W g d) (hb : Below W.heap.size W W') : Dg W' g d := ⟨h.arr.below hb h.lt⟩
theorem Dg.range (h : Dg W g d) : W.rangeAt g 0 (d.map bv) := h.arr.range
theorem Dg.there (h : Dg W g d) : W.there g 0 16 := h.arr.there
theorem Dg.thereA (h : Dg W g d) (he : e.length = 16) : W.there g 0 (e.map bv).toArray.size := by
  rw [List.size_toArray, List.length_map, he]; exact h.there
theorem Dg.put (h : Dg W g d) (he : e.length = 16) : Dg (W.setCells g 0 (e.map bv)) g e := ⟨h.arr.over (by rw [List.length_map]; exact he)⟩
theorem Dg.aside {k : Nat} (h : Dg W g d) (hk : g ≠ k) (xs : List Value) : Dg (W.setCells k 0 xs) g d := ⟨h.arr.aside hk _⟩
theorem dg_new (W : World) (hd : d.length = 16) (t : TypeId) : Dg (W.alloc (.cells (d.map bv).toArray t)) W.heap.size d := by
  have h := Hash.arr_new W (d.map bv).toArray t
  have hs : (d.map bv).toArray.size = 16 := by simp [hd]
  rw [hs] at h
  exact ⟨h⟩
def zero : List UInt8 := List.replicate 16 0
theorem zero_length : zero.length = 16 := rfl
theorem dg_zero (W : World) (t : TypeId) : Dg (W.alloc (.cells #[.int .u8 0, .int .u8 0, .int .u8 0, .int .u8 0, .int .u8 0, .int .u8 0, .int .u8 0, .int .u8 0, .int .u8 0, .int .u8 0, .int .u8 0, .int .u8 0, .int .u8 0, .int .u8 0, .int .u8 0, .int .u8 0] t)) W.heap.size zero :=
  dg_new W zero_length t
end
/-- A digest is returned; the memory that was there is as it was. -/
def GivesD (d : List UInt8) (w : World) (e : Ending) (w' : World) : Prop := e = .returned (dv d) ∧ Below w.heap.size w w'
section
variable {ops : Array Oper} {rest : List Oper} {o : Oper} {a : Act} {w : World} {Q : Exit → Act → World → Prop}
theorem load_d (k : Tmp) (_hk : o.dst = some k) (hgd : o.guard = none) (x : Operand) (ho : o.op = .load 29 x) (g off : Nat) (hx : a.eval x = .pointer (some ⟨g, off, none⟩)) (d : List UInt8) (hd : d.length = 16) (hr : w.rangeAt g off (d.map bv))
    (h : wpList Tryd.prog ops Q rest (a.put o.dst (dv d)) w) : wpList Tryd.prog ops Q (o :: rest) a w :=
  wpList_load_mid hgd 29 x ho g off hx (d.map bv) _ hr und_d rfl (info_d hd) h
theorem store_d (x y : Operand) (ho : o.op = .store 29 x y) (hgd : o.guard = none) (g off : Nat) (hx : a.eval x = .pointer (some ⟨g, off, none⟩)) (d : List UInt8) (hy : a.eval y = dv d) (hd : d.length = 16) (ht : w.there g off 16)
    (h : wpList Tryd.prog ops Q rest (a.put o.dst undef) (w.setCells g off (d.map bv))) : wpList Tryd.prog ops Q (o :: rest) a w :=
  wpList_store_mid hgd 29 x y ho g off (d.map bv).toArray hx hy (by rw [List.size_toArray, List.length_map, hd]; exact ht) (info_dA hd) (one_d d) h
end
/-- What is stored last in the result's block is returned. -/
theorem dg_end {w W : World} {g : Nat} {d e : List UInt8} (h : Dg W g d) (he : e.length = 16) (hb : Below w.heap.size w W) (hg : w.heap.size ≤ g) :
    (loadVar 29 ⟨g, 0, none⟩).run Tryd.prog (W.setCells g 0 (e.map bv)) = .ok (dv e) (W.setCells g 0 (e.map bv)) ∧ Below w.heap.size w (W.setCells g 0 (e.map bv)) :=
  Hash.arr_end (w := w) (wr := W) (g := g) (xs := e.map bv) 29 hb hg (by rw [List.length_map, he]; exact h.there) und_d rfl (info_d he)
end Mk
end Go.Proofs.YthpkeaafgabjiaaDoor

/- Digests and lists of digests in memory, for the proofs over the package merkle; the tables of both hashes; the hash inputs of trees. No condition. -/
namespace Go.Proofs.YthpkeaafgabjiaaDoor
open Go.RowKit
namespace Mk
open Wire (bv Lies bytes_one)
open Hash (Table GivesA ofIn ofDig sha)

def cellsD (l : List (List UInt8)) : List Value := l.flatMap (·.map bv)
def Ok (l : List (List UInt8)) : Prop := ∀ d ∈ l, d.length = 16
theorem Ok.at_ {l : List (List UInt8)} (h : Ok l) {j : Nat} {d : List UInt8} (hd : l[j]? = some d) : d.length = 16 := h d (List.mem_of_getElem? hd)
theorem Ok.take {l : List (List UInt8)} (h : Ok l) (k : Nat) : Ok (l.take k) := fun d hd => h d (List.mem_of_mem_take hd)
theorem Ok.drop {l : List (List UInt8)} (h : Ok l) (k : Nat) : Ok (l.drop k) := fun d hd => h d (List.mem_of_mem_drop hd)
theorem Ok.append {l m : List (List UInt8)} (h : Ok l) (g : Ok m) : Ok (l ++ m) := fun d hd => (List.mem_append.1 hd).elim (h d) (g d)
theorem Ok.one {d : List UInt8} (h : d.length = 16) : Ok [d] := fun e he => by rw [List.mem_singleton.1 he]; exact h
theorem ok_nil : Ok [] := fun _ h => by cases h
theorem cellsD_append (l m : List (List UInt8)) : cellsD (l ++ m) = cellsD l ++ cellsD m := by simp [cellsD]
theorem cellsD_one (d : List UInt8) : cellsD [d] = d.map bv := by simp [cellsD]
theorem cellsD_length {l : List (List UInt8)} (h : Ok l) : (cellsD l).length = l.length * 16 := by
  induction l with
  | nil => rfl
  | cons d l ih =>
    have h1 := h d (List.mem_cons_self ..)
    have h2 := ih fun e he => h e (List.mem_cons_of_mem _ he)
    have : cellsD (d :: l) = d.map bv ++ cellsD l := rfl
    rw [this, List.length_append, List.length_map, h1, h2, List.length_cons]
    omega
theorem cellsD_at {l : List (List UInt8)} (h : Ok l) {j : Nat} {d : List UInt8} (hd : l[j]? = some d) {i : Nat} {u : Value} (hu : (d.map bv)[i]? = some u) : (cellsD l)[j * 16 + i]? = some u := by
  induction l generalizing j with
  | nil => cases hd
  | cons e l ih =>
    have h1 := h e (List.mem_cons_self ..)
    have h2 : Ok l := fun f hf => h f (List.mem_cons_of_mem _ hf)
    have hc : cellsD (e :: l) = e.map bv ++ cellsD l := rfl
    rw [hc]
    cases j with
    | zero =>
      cases hd
      have := (List.getElem?_eq_some_iff.1 hu).1
      rw [Nat.zero_mul, Nat.zero_add, List.getElem?_append_left this]
      exact hu
    | succ j =>
      rw [List.getElem?_append_right (by rw [List.length_map, h1]; omega), List.length_map, h1, show (j + 1) * 16 + i - 16 = j * 16 + i by omega]
      exact ih h2 hd
theorem cellsD_take {l : List (List UInt8)} (h : Ok l) (k : Nat) : cellsD (l.take k) = (cellsD l).take (k * 16) := by
  induction l generalizing k with
  | nil => simp [cellsD]
  | cons e l ih =>
    have h1 := h e (List.mem_cons_self ..)
    have h2 : Ok l := fun f hf => h f (List.mem_cons_of_mem _ hf)
    have hc : ∀ m, cellsD (e :: m) = e.map bv ++ cellsD m := fun _ => rfl
    cases k with
    | zero => simp [cellsD]
    | succ k =>
      have e1 : (e.map bv).take ((k + 1) * 16) = e.map bv := List.take_of_length_le (by rw [List.length_map, h1]; omega)
      rw [List.take_succ_cons, hc, hc, ih h2, List.take_append, e1, List.length_map, h1, show (k + 1) * 16 - 16 = k * 16 by omega]
theorem cellsD_drop {l : List (List UInt8)} (h : Ok l) (k : Nat) : cellsD (l.drop k) = (cellsD l).drop (k * 16) := by
  induction l generalizing k with
  | nil => simp [cellsD]
  | cons e l ih =>
    have h1 := h e (List.mem_cons_self ..)
    have h2 : Ok l := fun f hf => h f (List.mem_cons_of_mem _ hf)
    have hc : ∀ m, cellsD (e :: m) = e.map bv ++ cellsD m := fun _ => rfl
    cases k with
    | zero => simp
    | succ k =>
      have e1 : (e.map bv).drop ((k + 1) * 16) = [] := List.drop_eq_nil_of_le (by rw [List.length_map, h1]; omega)
      rw [List.drop_succ_cons, hc, ih h2, List.drop_append, e1, List.nil_append, List.length_map, h1, show (k + 1) * 16 - 16 = k * 16 by omega]

/-- A slice that reads as a list of digests. -/
structure LiesD (w : World) (B : Nat) (A : Option Addr) (n c : Nat) (l : List (List UInt8)) : Prop where
  lies : Lies w B 16 A n c (cellsD l)
  ok : Ok l
section
variable {w w' : World} {B n c : Nat} {A : Option Addr} {l : List (List UInt8)}
theorem LiesD.len (h : LiesD w B A n c l) : l.length = n := by
  have := h.lies.len
  rw [cellsD_length h.ok] at this
  omega
theorem LiesD.below (h : LiesD w B A n c l) (hb : Below B w w') : LiesD w' B A n c l := ⟨h.lies.below hb, h.ok⟩
theorem LiesD.more {B' : Nat} (h : LiesD w B A n c l) (hb : B ≤ B') : LiesD w B' A n c l := ⟨h.lies.more hb, h.ok⟩
theorem LiesD.on (h : LiesD w w.heap.size A n c l) (hb : Below w.heap.size w w') : LiesD w' w'.heap.size A n c l := (h.below hb).more hb.size
theorem LiesD.row (h : LiesD w B A n c l) {j : Nat} {d : List UInt8} (hd : l[j]? = some d) : ∃ b o, A = some ⟨b, o, none⟩ ∧ b < B ∧ w.rangeAt b (o + j * 16) (d.map bv) := by
  have hj : j < l.length := (List.getElem?_eq_some_iff.1 hd).1
  have hn := h.len
  obtain ⟨b, o, e, hb, hc⟩ := h.lies.cells (by omega)
  refine ⟨b, o, e, hb, fun i u hu => ?_⟩
  rw [Nat.add_assoc]
  exact hc _ u (cellsD_at h.ok hd hu)
theorem LiesD.take (h : LiesD w B A n c l) {k : Nat} (hk : k ≤ n) : LiesD w B A k c (l.take k) := by
  have hn := h.len
  have ho := h.ok.take k
  refine ⟨⟨?_, by have := h.lies.le; omega, h.lies.most, h.lies.some_, fun hp => ?_⟩, ho⟩
  · rw [cellsD_length ho, List.length_take]; omega
  · obtain ⟨b, o, e, hb, hc⟩ := h.lies.cells (by omega)
    refine ⟨b, o, e, hb, fun j u hu => hc j u ?_⟩
    rw [cellsD_take h.ok, List.getElem?_take] at hu
    split at hu
    · exact hu
    · cases hu
theorem LiesD.drop {b o : Nat} (h : LiesD w B (some ⟨b, o, none⟩) n c l) {k : Nat} (hk : k ≤ n) : LiesD w B (some ⟨b, o + k * 16, none⟩) (n - k) (c - k) (l.drop k) := by
  have hn := h.len
  have hle := h.lies.le
  have hm := h.lies.most
  have ho := h.ok.drop k
  refine ⟨⟨?_, by omega, by omega, fun _ => ⟨_, _, rfl⟩, fun hp => ?_⟩, ho⟩
  · rw [cellsD_length ho, List.length_drop]; omega
  · obtain ⟨b', o', e, hb, hc⟩ := h.lies.cells (by omega)
    simp only [Option.some.injEq, Addr.mk.injEq, and_true] at e
    obtain ⟨rfl, rfl⟩ := e
    refine ⟨b, o + k * 16, rfl, hb, fun j u hu => ?_⟩
    rw [cellsD_drop h.ok, List.getElem?_drop] at hu
    rw [Nat.add_assoc]
    exact hc _ u hu
theorem liesD_nil (w : World) (B : Nat) (A : Option Addr) : LiesD w B A 0 0 [] := ⟨⟨by simp [cellsD], Nat.le_refl _, Nat.zero_le _, fun h => absurd h (Nat.lt_irrefl 0), fun h => absurd h (Nat.lt_irrefl 0)⟩, ok_nil⟩
end

/-- The table of trailing zeros is there. -/
def Tab64 (w : World) : Prop := ∀ j, j < Lib.deBruijn64tab.length → w.cell? ⟨2, j, none⟩ = some (.int .u8 (Lib.deBruijn64tab.getD j 0))
theorem Tab64.size {w : World} (h : Tab64 w) : 2 < w.heap.size := World.block_lt_of_cell? w _ (h 0 (by decide))
theorem Tab64.below {w w' : World} {B : Nat} (h : Tab64 w) (hb : Below B w w') (hB : 2 < B) : Tab64 w' := fun j hj => (World.cell?_of_block (hb.block _ hB)).trans (h j hj)
/-- The tables that the package reads are there. -/
structure TP (w : World) : Prop where
  a : Table 3 w
  c : Tab64 w
theorem TP.on {w w' : World} (h : TP w) (hb : Below w.heap.size w w') : TP w' := ⟨h.a.below hb h.a.size, h.c.below hb h.c.size⟩
/-- The tables that the package and its reference read are there. -/
structure TT (w : World) : Prop where
  p : TP w
  b : Table 0 w
theorem TT.on {w w' : World} (h : TT w) (hb : Below w.heap.size w w') : TT w' := ⟨h.p.on hb, h.b.below hb h.b.size⟩

/-- The hash inputs of trees of digests. -/
def HH : Hasher (List UInt8) (List UInt8) := { li := fun d => ofIn 1 [d], ni := fun a b => ofIn 2 [a, b], sh := fun x => (sha x).take 16, nil := ofDig 1 [] }
theorem sh_length (x : List UInt8) : (HH.sh x).length = 16 := by
  show ((sha x).take 16).length = 16
  rw [List.length_take, Hash.sha_length]
  rfl
theorem leaf_length (d : List UInt8) : (HH.leaf d).length = 16 := sh_length _
theorem node_length (a b : List UInt8) : (HH.node a b).length = 16 := sh_length _
theorem nil_length : (HH.nil).length = 16 := sh_length (ofIn 1 [])
theorem root_length (l : List (List UInt8)) : (root HH l).length = 16 := by
  rw [root]
  split
  · exact node_length _ _
  · cases l with
    | nil => exact nil_length
    | cons d l => exact leaf_length d
theorem clear_HH : Clear HH (fun d => d.length = 16) := by
  refine ⟨fun a b ha hb h => ?_, fun a b c d ha hb hc hd h => ?_, sh_length⟩
  · have h2 := (Hash.ofIn_inj (t0 := 1) (t1 := 1) (by omega) (by omega) (a := [a]) (b := [b]) (by intro s hs; rw [List.mem_singleton.1 hs]; omega) (by intro s hs; rw [List.mem_singleton.1 hs]; omega) h).2
    exact (List.cons.inj h2).1
  · have h2 := (Hash.ofIn_inj (t0 := 2) (t1 := 2) (by omega) (by omega) (a := [a, b]) (b := [c, d])
      (by intro s hs; rcases List.mem_cons.1 hs with rfl | hs; omega; rw [List.mem_singleton.1 hs]; omega) (by intro s hs; rcases List.mem_cons.1 hs with rfl | hs; omega; rw [List.mem_singleton.1 hs]; omega) h).2
    obtain ⟨e1, e2⟩ := List.cons.inj h2
    exact ⟨e1, (List.cons.inj e2).1⟩
end Mk
end Go.Proofs.YthpkeaafgabjiaaDoor

/- Digests in blocks of their own, and lists of them. No condition. -/

/- The reference of package merkle: leaf, node, Split. Condition: digests have 16 bytes, the tables are laid. -/
namespace Go.Proofs.YthpkeaafgabjiaaDoor
open Go.RowKit
namespace Mk
open Wire (bv sv Lies)
open Hash (Table GivesA GivesT ofIn ofDig sha bcj at_slot)

set_option maxRecDepth 100000 in
set_option maxHeartbeats 1000000 in
theorem refSplit_any (n : Nat) (h2 : 2 ≤ n) (hn : n ≤ 9223372036854775807) (w : World) :
    Calls Tryd.prog 36 #[.int .i64 (n : Int)] w fun e w1 => e = .returned (.int .i64 (split n : Int)) ∧ Below w.heap.size w w1 := by
  have HS := Lib.hid (split_is h2)
  go_enter Tryd.func36, Tryd.ntmps36
  go_wp2
  go_loopw [3] (fun kv wr => ∃ (j : Nat), 2 ^ j < n ∧ kv = .int .i64 ((2 ^ j : Nat) : Int) ∧ Below w.heap.size w wr) (fun kv _ => (n - intOf kv).toNat)
  case atStart => exact ⟨0, by omega, rfl, Below.refl _ _⟩
  case round =>
    obtain ⟨j, hj, rfl, hbw⟩ := hrel
    have hp := Nat.one_le_two_pow (n := j)
    have HJ : Hid (∀ m, m = 2 ^ j → 2 ^ (j + 1) = 2 * m) := Lib.hid (fun m hm => by rw [hm, Nat.pow_succ]; omega)
    obtain ⟨m, hm⟩ : ∃ m, m = 2 ^ j := ⟨_, rfl⟩
    rw [← hm] at hj hp ⊢
    have HM := Lib.hid hm
    clear hm
    have e0 : wrap64 ((n : Int) - (m : Int)) = (n : Int) - (m : Int) := by simp only [wrap64]; omega
    by_cases hlt : m < n - m
    · have z1 : (m : Int) < (n : Int) - (m : Int) := by omega
      go_wp2
      go_roundw
      case rel => exact ⟨j + 1, by rw [HJ.out m HM.out]; omega, by rw [HJ.out m HM.out]; push_cast; rfl, hbw⟩
      case measure => simp [intOf]; omega
    · have z1 : ¬ (m : Int) < (n : Int) - (m : Int) := by omega
      have hsp : split n = m := split_eq ⟨⟨j, HM.out⟩, hj, by omega⟩
      go_wp2
      go_ret
      exact ⟨rfl, hbw⟩

theorem enc_small {d : List UInt8} (h : d.length = 16) : (Wire.encStr d).length ≤ 25 := by
  have h1 := Wire.enc_length_le (n := (d.length : Int)) (by omega)
  unfold Wire.encStr
  rw [List.length_append]
  omega
theorem ofIn_one {t : Int} {d : List UInt8} (h : d.length = 16) : (ofIn t [d]).length ≤ 1000000 := by
  have := enc_small h
  simp [ofIn]
  omega
theorem ofIn_two {t : Int} {a b : List UInt8} (ha : a.length = 16) (hb : b.length = 16) : (ofIn t [a, b]).length ≤ 1000000 := by
  have := enc_small ha
  have := enc_small hb
  simp [ofIn]
  omega
theorem lit1 (w : World) (a : List UInt8) : Lies (w.alloc (.cells #[.string ⟨a.toArray⟩] 9)) (w.alloc (.cells #[.string ⟨a.toArray⟩] 9)).heap.size 1 (some ⟨w.heap.size, 0, none⟩) 1 1 ([a].map sv) :=
  Wire.lies_lit w _ _ ([a].map sv) rfl (by simp [maxLen])
theorem lit2 (w : World) (a b : List UInt8) : Lies (w.alloc (.cells #[.string ⟨a.toArray⟩, .string ⟨b.toArray⟩] 9)) (w.alloc (.cells #[.string ⟨a.toArray⟩, .string ⟨b.toArray⟩] 9)).heap.size 1 (some ⟨w.heap.size, 0, none⟩) 2 2 ([a, b].map sv) :=
  Wire.lies_lit w _ _ ([a, b].map sv) rfl (by simp [maxLen])
theorem refOf_lit1 (t : Int) (d : List UInt8) (hd : d.length = 16) (w : World) (ht : TT w) :
    Calls Tryd.prog 43 #[.int .i64 t, .slice (some ⟨w.heap.size, 0, none⟩) 1 1] (w.alloc (.cells #[.string ⟨d.toArray⟩] 9)) (GivesD (ofDig t [d]) w) := by
  have hb := Wire.b1 w (.cells #[.string ⟨d.toArray⟩] 9)
  exact (Hash.refOf_any t [d] 1 1 _ _ (lit1 w d) (ofIn_one hd) (ht.on hb).b).mono fun e w' ⟨h1, h2⟩ => ⟨h1, bcj hb h2⟩
theorem refOf_lit2 (t : Int) (a b : List UInt8) (ha : a.length = 16) (hb : b.length = 16) (w : World) (ht : TT w) :
    Calls Tryd.prog 43 #[.int .i64 t, .slice (some ⟨w.heap.size, 0, none⟩) 2 2] (w.alloc (.cells #[.string ⟨a.toArray⟩, .string ⟨b.toArray⟩] 9)) (GivesD (ofDig t [a, b]) w) := by
  have hb2 := Wire.b1 w (.cells #[.string ⟨a.toArray⟩, .string ⟨b.toArray⟩] 9)
  exact (Hash.refOf_any t [a, b] 2 2 _ _ (lit2 w a b) (ofIn_two ha hb) (ht.on hb2).b).mono fun e w' ⟨h1, h2⟩ => ⟨h1, bcj hb2 h2⟩
theorem refOf_nil (w : World) (ht : TT w) : Calls Tryd.prog 43 #[.int .i64 1, .slice none 0 0] w (GivesD HH.nil w) :=
  Hash.refOf_any 1 [] 0 0 none w ⟨by simp, Nat.le_refl _, Nat.zero_le _, fun h => absurd h (Nat.lt_irrefl 0), fun h => absurd h (Nat.lt_irrefl 0)⟩ (by simp [ofIn]) ht.b

set_option maxRecDepth 100000 in
set_option maxHeartbeats 1000000 in
theorem refLeaf_any (d : List UInt8) (hd : d.length = 16) (w : World) (ht : TT w) : Calls Tryd.prog 44 #[dv d] w (GivesD (HH.leaf d) w) := by
  have HT : Hid (∀ W, Calls Tryd.prog 53 #[dv d] W (GivesT d W)) := Lib.hid (fun W => Hash.text_any d W hd)
  have HO := Lib.hid (fun W h => refOf_lit1 1 d hd W h)
  obtain ⟨D, hD⟩ : ∃ D, D = HH.leaf d := ⟨_, rfl⟩
  have hDl : D.length = 16 := by rw [hD]; exact leaf_length d
  rw [show ofDig 1 [d] = D from hD.symm] at HO
  rw [← hD]
  have P0 := dg_new w hd 29
  have R0 := dg_zero (w.alloc (.cells (d.map bv).toArray 29)) 29
  have b0 := Wire.b1 w (.cells (d.map bv).toArray 29)
  rw [Wire.size_alloc] at R0
  have P1 := P0.on (Wire.b1 _ (.cells #[.int .u8 0, .int .u8 0, .int .u8 0, .int .u8 0, .int .u8 0, .int .u8 0, .int .u8 0, .int .u8 0, .int .u8 0, .int .u8 0, .int .u8 0, .int .u8 0, .int .u8 0, .int .u8 0, .int .u8 0, .int .u8 0] 29))
  have Z := bcj b0 (Wire.b1 _ (.cells #[.int .u8 0, .int .u8 0, .int .u8 0, .int .u8 0, .int .u8 0, .int .u8 0, .int .u8 0, .int .u8 0, .int .u8 0, .int .u8 0, .int .u8 0, .int .u8 0, .int .u8 0, .int .u8 0, .int .u8 0, .int .u8 0] 29))
  have HTT := Lib.hid ht
  have HD := Lib.hid hd
  have HDL := Lib.hid hDl
  clear hd ht hD hDl P0 b0
  unfold dv
  go_enter Tryd.func44, Tryd.ntmps44
  go_wp2_with (first
    | (refine load_d 3 rfl rfl (.tmp 1) rfl w.heap.size 0 rfl d HD.out P1.range ?_)
    | (go_at_call 53; (with_reducible refine (HT.out _).mono ?_); rintro e w1 ⟨rfl, hb⟩; replace Z := bcj Z hb; replace R0 := R0.on hb; clear hb P1)
    | (go_at_call 43; (with_reducible refine (HO.out _ (HTT.out.on Z)).mono ?_); rintro e w2 ⟨rfl, hb⟩; replace Z := bcj Z hb; replace R0 := R0.on hb; clear hb)
    | (refine store_d (.tmp 2) (.tmp 6) rfl rfl (w.heap.size + 1) 0 rfl D rfl HDL.out R0.there ?_))
  have HE := dg_end R0 HDL.out Z (by omega)
  refine bodyPost_ret (v := dv D) ?_ rfl ⟨rfl, HE.2⟩
  simp [results, Tryd.results44, asAddr, Act.put]
  rw [HE.1]

/-- Two digests that came in, and room for one that goes out. -/
structure Two (w W : World) (a b : List UInt8) : Prop where
  p : Dg W w.heap.size a
  q : Dg W (w.heap.size + 1) b
  r : Dg W (w.heap.size + 1 + 1) zero
  z : Below w.heap.size w W
theorem Two.on {w W W' : World} {a b : List UInt8} (h : Two w W a b) (hb : Below W.heap.size W W') : Two w W' a b := ⟨h.p.on hb, h.q.on hb, h.r.on hb, bcj h.z hb⟩

set_option maxRecDepth 100000 in
set_option maxHeartbeats 1000000 in
theorem refNode_any (a b : List UInt8) (ha : a.length = 16) (hb : b.length = 16) (w : World) (ht : TT w) : Calls Tryd.prog 45 #[dv a, dv b] w (GivesD (HH.node a b) w) := by
  have HTA : Hid (∀ W, Calls Tryd.prog 53 #[dv a] W (GivesT a W)) := Lib.hid (fun W => Hash.text_any a W ha)
  have HTB : Hid (∀ W, Calls Tryd.prog 53 #[dv b] W (GivesT b W)) := Lib.hid (fun W => Hash.text_any b W hb)
  have HO := Lib.hid (fun W h => refOf_lit2 2 a b ha hb W h)
  obtain ⟨D, hD⟩ : ∃ D, D = HH.node a b := ⟨_, rfl⟩
  have hDl : D.length = 16 := by rw [hD]; exact node_length a b
  rw [show ofDig 2 [a, b] = D from hD.symm] at HO
  rw [← hD]
  have P0 := dg_new w ha 29
  have z0 := Wire.b1 w (.cells (a.map bv).toArray 29)
  have Q0 := dg_new (w.alloc (.cells (a.map bv).toArray 29)) hb 29
  have z1 := Wire.b1 (w.alloc (.cells (a.map bv).toArray 29)) (.cells (b.map bv).toArray 29)
  have R0 := dg_zero ((w.alloc (.cells (a.map bv).toArray 29)).alloc (.cells (b.map bv).toArray 29)) 29
  have z2 := Wire.b1 ((w.alloc (.cells (a.map bv).toArray 29)).alloc (.cells (b.map bv).toArray 29)) (.cells #[.int .u8 0, .int .u8 0, .int .u8 0, .int .u8 0, .int .u8 0, .int .u8 0, .int .u8 0, .int .u8 0, .int .u8 0, .int .u8 0, .int .u8 0, .int .u8 0, .int .u8 0, .int .u8 0, .int .u8 0, .int .u8 0] 29)
  rw [Wire.size_alloc, Wire.size_alloc] at R0
  have Q1 := Q0.on z2
  rw [Wire.size_alloc] at Q1
  have Y : Two w _ a b := ⟨(P0.on z1).on z2, Q1, R0, bcj (bcj z0 z1) z2⟩
  have HTT := Lib.hid ht
  have HA := Lib.hid ha
  have HB := Lib.hid hb
  have HDL := Lib.hid hDl
  have CA : Hid (∀ W, Two w W a b → W.rangeAt w.heap.size 0 (a.map bv)) := Lib.hid (fun W h => h.p.range)
  have CB : Hid (∀ W, Two w W a b → W.rangeAt (w.heap.size + 1) 0 (b.map bv)) := Lib.hid (fun W h => h.q.range)
  have YD := Y.on (Hash.belowD _)
  clear ha hb ht hD hDl P0 Q0 Q1 R0 z0 z1 z2 Y
  unfold dv
  go_enter Tryd.func45, Tryd.ntmps45
  go_wp2
  refine QTail.region (C := fun W => Two w W a b) 4 (by kernel_rfl) (by kernel_rfl) YD ?_
  refine QTail.loadC (by rfl) 29 (.tmp 2) rfl w.heap.size 0 rfl (a.map bv) _ CA.out und_d rfl (info_d HA.out) ?_
  (refine wpQuiet_step (fun K hK => ?_); go_simp; refine ⟨_, fun W hW => (HTA.out W).mono fun e w' ⟨he, hb⟩ => ⟨he, hW.on hb⟩, hK _ ?_⟩; clear hK K)
  refine QTail.loadC (by rfl) 29 (.tmp 3) rfl (w.heap.size + 1) 0 rfl (b.map bv) _ CB.out und_d rfl (info_d HB.out) ?_
  (refine wpQuiet_step (fun K hK => ?_); go_simp; refine ⟨_, fun W hW => (HTB.out W).mono fun e w' ⟨he, hb⟩ => ⟨he, hW.on hb⟩, hK _ ?_⟩; clear hK K)
  refine wpQuiet_nil ?_
  clear YD
  intro w1 Y
  have R0 := Y.r
  have Z := Y.z
  clear Y
  go_wp2_with (first
    | (go_at_call 43; (with_reducible refine (HO.out _ (HTT.out.on Z)).mono ?_); rintro e w3 ⟨rfl, hb⟩; replace Z := bcj Z hb; replace R0 := R0.on hb; clear hb)
    | (refine store_d (.tmp 4) (.tmp 10) rfl rfl (w.heap.size + 1 + 1) 0 rfl D rfl HDL.out R0.there ?_))
  have HE := dg_end R0 HDL.out Z (by omega)
  refine bodyPost_ret (v := dv D) ?_ rfl ⟨rfl, HE.2⟩
  simp [results, Tryd.results45, asAddr, Act.put]
  rw [HE.1]
end Mk
end Go.Proofs.YthpkeaafgabjiaaDoor

/- The reference of package merkle: Root. Conditions: the slice reads as a list of digests, the tables are laid. -/
namespace Go.Proofs.YthpkeaafgabjiaaDoor
open Go.RowKit
namespace Mk
open Wire (bv sv Lies)
open Hash (Table GivesA GivesT ofIn ofDig sha bcj at_slot)

/-- Room for a digest that goes out. -/
structure Rm (w W : World) : Prop where
  r : Dg W w.heap.size zero
  z : Below w.heap.size w W
theorem Rm.on {w W W' : World} (h : Rm w W) (hb : Below W.heap.size W W') : Rm w W' := ⟨h.r.on hb, bcj h.z hb⟩
theorem rm_new (w : World) (t : TypeId) : Rm w (w.alloc (.cells #[.int .u8 0, .int .u8 0, .int .u8 0, .int .u8 0, .int .u8 0, .int .u8 0, .int .u8 0, .int .u8 0, .int .u8 0, .int .u8 0, .int .u8 0, .int .u8 0, .int .u8 0, .int .u8 0, .int .u8 0, .int .u8 0] t)) :=
  ⟨dg_zero w t, Wire.b1 w _⟩
theorem Rm.fin {w W : World} {d : List UInt8} (h : Rm w W) (hd : d.length = 16) :
    (loadVar 29 ⟨w.heap.size, 0, none⟩).run Tryd.prog (W.setCells w.heap.size 0 (d.map bv)) = .ok (dv d) (W.setCells w.heap.size 0 (d.map bv)) ∧ Below w.heap.size w (W.setCells w.heap.size 0 (d.map bv)) :=
  dg_end h.r hd h.z (Nat.le_refl _)

set_option maxRecDepth 100000 in
set_option maxHeartbeats 1000000 in
theorem refRoot_nil (w : World) (c : Nat) (A : Option Addr) (ht : TT w) : Calls Tryd.prog 17 #[.slice A 0 c] w (GivesD (root HH []) w) := by
  have Y := rm_new w 29
  have HO := Lib.hid (fun W h => refOf_nil W h)
  have HTT := Lib.hid ht
  have HDL := Lib.hid nil_length
  rw [root_nil]
  generalize HH.nil = D at *
  clear ht
  go_enter Tryd.func17, Tryd.ntmps17
  go_wp2_with (first
    | (go_at_call 43; (with_reducible refine (HO.out _ (HTT.out.on Y.z)).mono ?_); rintro e w3 ⟨rfl, hb⟩; replace Y := Y.on hb; clear hb)
    | (refine store_d _ _ rfl rfl w.heap.size 0 rfl D rfl HDL.out Y.r.there ?_))
  have HE := Y.fin HDL.out
  refine bodyPost_ret (v := dv D) ?_ rfl ⟨rfl, HE.2⟩
  simp [results, Tryd.results17, asAddr, Act.put]
  rw [HE.1]

set_option maxRecDepth 100000 in
set_option maxHeartbeats 1000000 in
theorem refRoot_any : ∀ (n : Nat) (l : List (List UInt8)) (c : Nat) (A : Option Addr) (w : World), LiesD w w.heap.size A n c l → TT w →
    Calls Tryd.prog 17 #[.slice A n c] w (GivesD (root HH l) w) := by
  intro n
  induction n using Nat.strongRecOn with
  | _ n ih =>
    intro l c A w hl ht
    have hln := hl.len
    by_cases h0 : n = 0
    · subst h0
      obtain rfl := List.eq_nil_of_length_eq_zero hln
      exact refRoot_nil w c A ht
    have hmost : c ≤ 9223372036854775807 := by have := hl.lies.most; unfold maxLen at this; omega
    have hle := hl.lies.le
    have Y := rm_new w 29
    have HTT := Lib.hid ht
    by_cases h1 : n = 1
    · subst h1
      obtain ⟨d, rfl⟩ := List.length_eq_one_iff.1 hln
      obtain ⟨b, o, rfl, hb, hr⟩ := (hl.on Y.z).row (j := 0) (d := d) rfl
      rw [Nat.zero_mul, Nat.add_zero] at hr
      have hd := hl.ok d (by simp)
      have HD := Lib.hid hd
      have HLF := Lib.hid (fun W h => refLeaf_any d hd W h)
      have HDL := Lib.hid (leaf_length d)
      rw [root_one]
      generalize HH.leaf d = D at *
      clear ht hl hln hd ih
      go_enter Tryd.func17, Tryd.ntmps17
      go_wp2_with (first
        | (refine load_d 13 rfl rfl _ rfl b o rfl d HD.out hr ?_)
        | (go_at_call 44; (with_reducible refine (HLF.out _ (HTT.out.on Y.z)).mono ?_); rintro e w3 ⟨rfl, hb⟩; replace Y := Y.on hb; clear hb hr)
        | (refine store_d _ _ rfl rfl w.heap.size 0 rfl D rfl HDL.out Y.r.there ?_))
      have HE := Y.fin HDL.out
      refine bodyPost_ret (v := dv D) ?_ rfl ⟨rfl, HE.2⟩
      simp [results, Tryd.results17, asAddr, Act.put]
      rw [HE.1]
    · have h2 : 2 ≤ n := by omega
      have y0 : ¬ (n : Int) = 0 := by omega
      have y1 : ¬ (n : Int) = 1 := by omega
      have y2 : ((n : Int) == 0) = false := by simpa using y0
      have y3 : ((n : Int) == 1) = false := by simpa using y1
      have hs1 := split_lt h2
      have hs2 := split_pos n
      have HSP := Lib.hid (fun W => refSplit_any n h2 (by omega) W)
      have HRT := Lib.hid (root_two HH (l := l) (by omega))
      rw [hln] at HRT
      generalize split n = k at *
      obtain ⟨d0, hd0⟩ : ∃ d, l[0]? = some d := ⟨_, List.getElem?_eq_getElem (by omega)⟩
      obtain ⟨b, o, rfl, -, -⟩ := hl.row hd0
      have hA := (hl.take (k := k) (by omega))
      have hB := (hl.drop (k := k) (by omega))
      have HRA : Hid (∀ W, Rm w W → Calls Tryd.prog 17 #[.slice (some ⟨b, o, none⟩) k c] W (GivesD (root HH (l.take k)) W)) := Lib.hid (fun W h => ih k hs1 _ c _ W ((hA.below h.z).more h.z.size) (HTT.out.on h.z))
      have HRB : Hid (∀ W, Rm w W → Calls Tryd.prog 17 #[.slice (some ⟨b, o + k * 16, none⟩) (n - k) (c - k)] W (GivesD (root HH (l.drop k)) W)) := Lib.hid (fun W h => ih (n - k) (by omega) _ (c - k) _ W ((hB.below h.z).more h.z.size) (HTT.out.on h.z))
      have HND : Hid (∀ W, Rm w W → Calls Tryd.prog 45 #[dv (root HH (l.take k)), dv (root HH (l.drop k))] W (GivesD (HH.node (root HH (l.take k)) (root HH (l.drop k))) W)) := Lib.hid (fun W h => refNode_any _ _ (root_length _) (root_length _) W (HTT.out.on h.z))
      have HDL := Lib.hid (node_length (root HH (l.take k)) (root HH (l.drop k)))
      rw [HRT.out]
      generalize HH.node (root HH (l.take k)) (root HH (l.drop k)) = D at *
      generalize root HH (l.take k) = DA at *
      generalize root HH (l.drop k) = DB at *
      clear ih hl ht hln hd0 hA hB HRT
      go_enter Tryd.func17, Tryd.ntmps17
      go_wp2_with (first
        | (go_at_call 36; (with_reducible refine (HSP.out _).mono ?_); rintro e w3 ⟨rfl, hb⟩; replace Y := Y.on hb; clear hb))
      refine QTail.region (C := fun W => Rm w W) 9 (by kernel_rfl) (by kernel_rfl) (Y.on (Hash.belowD _)) ?_
      (refine wpQuiet_step (fun K hK => ?_); go_simp; (first | refine hK _ ?_ | refine ⟨_, fun _ _ => rfl, hK _ ?_⟩); clear hK K)
      (refine wpQuiet_step (fun K hK => ?_); go_simp; (first | refine hK _ ?_ | refine ⟨_, fun _ _ => rfl, hK _ ?_⟩); clear hK K)
      (refine wpQuiet_step (fun K hK => ?_); go_simp; refine ⟨.slice (some ⟨b, o, none⟩) k c, fun W hW => ?_, hK _ ?_⟩; (first | exact ⟨rfl, rfl⟩ | (rw [if_pos (by omega)]; exact ⟨rfl, rfl⟩) | (rw [if_pos (by omega), if_neg (by omega)]; exact ⟨rfl, rfl⟩) | (rw [if_neg (by omega)]; exact ⟨rfl, rfl⟩)); clear hK K)
      (refine wpQuiet_step (fun K hK => ?_); go_simp; refine ⟨_, fun W hW => (HRA.out W hW).mono fun e w' ⟨he, hb⟩ => ⟨he, hW.on hb⟩, hK _ ?_⟩; clear hK K)
      (refine wpQuiet_step (fun K hK => ?_); go_simp; (first | refine hK _ ?_ | refine ⟨_, fun _ _ => rfl, hK _ ?_⟩); clear hK K)
      (refine wpQuiet_step (fun K hK => ?_); go_simp; (first | refine hK _ ?_ | refine ⟨_, fun _ _ => rfl, hK _ ?_⟩); clear hK K)
      (refine wpQuiet_step (fun K hK => ?_); go_simp; refine ⟨.slice (some ⟨b, o + k * 16, none⟩) (n - k) (c - k), fun W hW => ?_, hK _ ?_⟩; (first | exact ⟨rfl, rfl⟩ | (rw [if_pos (by omega)]; exact ⟨rfl, rfl⟩) | (rw [if_pos (by omega), if_neg (by omega)]; exact ⟨rfl, rfl⟩) | (rw [if_neg (by omega)]; exact ⟨rfl, rfl⟩)); clear hK K)
      (refine wpQuiet_step (fun K hK => ?_); go_simp; refine ⟨_, fun W hW => (HRB.out W hW).mono fun e w' ⟨he, hb⟩ => ⟨he, hW.on hb⟩, hK _ ?_⟩; clear hK K)
      (refine wpQuiet_step (fun K hK => ?_); go_simp; refine ⟨_, fun W hW => (HND.out W hW).mono fun e w' ⟨he, hb⟩ => ⟨he, hW.on hb⟩, hK _ ?_⟩; clear hK K)
      refine wpQuiet_nil ?_
      clear Y
      intro w5 Y
      refine store_d _ _ rfl rfl w.heap.size 0 rfl D rfl HDL.out Y.r.there ?_
      go_wp2
      have HE := Y.fin HDL.out
      refine bodyPost_ret (v := dv D) ?_ rfl ⟨rfl, HE.2⟩
      simp [results, Tryd.results17, asAddr, Act.put]
      rw [HE.1]
end Mk
end Go.Proofs.YthpkeaafgabjiaaDoor

