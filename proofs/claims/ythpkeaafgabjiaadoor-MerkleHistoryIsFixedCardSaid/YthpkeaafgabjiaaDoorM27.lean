/- MInC; MInS; MInA; MPCl: what each of these parts proves stands ahead of it. -/
import Derived.Test.YthpkeaafgabjiaaDoorM26
import Derived.Test.YthpkeaafgabjiaaDoorZEncB
/- The package merkle: the step that collects what is hashed (the closure of inputs). Conditions: what it has captured reads as said, the table is laid. -/
namespace Go.Proofs.YthpkeaafgabjiaaDoor
open Go.RowKit
namespace Mk
open Wire (bv sv Lies encStr own_below own_more)
open Hash (Arr Table bcj ofDig ofIn tagByte tagByte_eq)

/-- The world goes on; what lay stays, but for the box and the row that is in it. -/
structure Kx (gb : Nat) (v : Value) (w w' : World) : Prop where
  os : w'.os = w.os
  tape : w'.tape = w.tape
  output : w'.output = w.output
  size : w.heap.size ≤ w'.heap.size
  block : ∀ k, k < w.heap.size → k ≠ gb → v.ownBlock ≠ some k → w'.heap[k]? = w.heap[k]?
theorem Kx.below {gb : Nat} {v : Value} {w w1 w2 : World} (h : Kx gb v w w1) (hb : Below w1.heap.size w1 w2) : Kx gb v w w2 :=
  ⟨hb.os.trans h.os, hb.tape.trans h.tape, hb.output.trans h.output, Nat.le_trans h.size hb.size, fun k hk h1 h2 => (hb.block k (Nat.lt_of_lt_of_le hk h.size)).trans (h.block k hk h1 h2)⟩
theorem Kx.lies {gb : Nat} {v : Value} {w w' : World} {n c : Nat} {A : Option Addr} {xs : List Value} (h : Kx gb v w w') (hl : Lies w w.heap.size 1 A n c xs) (hA : ∀ b o, A = some ⟨b, o, none⟩ → b ≠ gb ∧ v.ownBlock ≠ some b) : Lies w' w'.heap.size 1 A n c xs :=
  ⟨hl.len, hl.le, hl.most, hl.some_, fun hn => by
    obtain ⟨b, o, e, hb, hc⟩ := hl.cells hn
    obtain ⟨h1, h2⟩ := hA b o e
    exact ⟨b, o, e, Nat.lt_of_lt_of_le hb h.size, fun j u hu => (World.cell?_of_block (h.block b hb h1 h2)).trans (hc j u hu)⟩⟩
theorem Kx.table {gb base g : Nat} {v : Value} {w w' : World} {n : Nat} {vs : List Value} (h : Kx gb v w w') (ho : w.ownsRow base 38 1 v n vs) (hg : g < gb) (hgb : gb < base) (ht : Table g w) : Table g w' := fun j hj =>
  (World.cell?_of_block (h.block g ht.size (by omega) (fun e => by have := (ho.lt g e).1; omega))).trans (ht j hj)
/-- Two rows of different types are apart. -/
theorem own_apart {w : World} {b1 n1 s1 k : Nat} {e1 : TypeId} {v1 : Value} {xs1 : List Value} {cs : Array Value} {e2 : TypeId} {f : Nat × Nat} (he : e1 ≠ e2) (h1 : w.ownsRow b1 e1 s1 v1 n1 xs1) (h2 : w.heap[k]? = some (.cells cs e2 f)) : v1.ownBlock ≠ some k := by
  intro e
  rcases h1.2 with ⟨rfl, _⟩ | ⟨g, cap, cur, rfl, _, hg, _⟩
  · cases e
  · simp only [Value.ownBlock, Option.some.injEq] at e
    subst e
    rw [hg] at h2
    simp only [Option.some.injEq, Obj.cells.injEq] at h2
    exact he h2.2.1
theorem own_obj {w : World} {b n s g c : Nat} {e : TypeId} {xs : List Value} (h : w.ownsRow b e s (.slice (some ⟨g, 0, none⟩) n c) n xs) : ∃ cs, w.heap[g]? = some (.cells cs e (0, 0)) := by
  rcases h.2 with ⟨h0, _⟩ | ⟨g', cap, cur, he, _, hg, _⟩
  · cases h0
  · simp only [Value.slice.injEq, Option.some.injEq, Addr.mk.injEq, and_true, true_and] at he
    obtain ⟨rfl, _⟩ := he
    exact ⟨cur, hg⟩
theorem own_heap {w w' : World} {b n s : Nat} {e : TypeId} {v : Value} {xs : List Value} (h : w.ownsRow b e s v n xs) (hk : ∀ k, v.ownBlock = some k → w'.heap[k]? = w.heap[k]?) : w'.ownsRow b e s v n xs := by
  refine ⟨h.1, ?_⟩
  rcases h.2 with h0 | ⟨g, cap, cur, rfl, hb, hg, r⟩
  · exact .inl h0
  · exact .inr ⟨g, cap, cur, rfl, hb, (hk g rfl).trans hg, r⟩
theorem dig_ne_txt : (38 : TypeId) ≠ 29 := by decide
theorem byte_ne_dig : (5 : TypeId) ≠ 29 := by decide
theorem byte_ne_txt : (5 : TypeId) ≠ 38 := by decide
theorem cells_off (g k : Nat) (h : k ≠ g) : ∀ (vs : List Value) (o : Nat) (W : World), (W.setCells g o vs).heap[k]? = W.heap[k]?
  | [], _, _ => rfl
  | v :: r, o, W => (cells_off g k h r (o + 1) _).trans (Below.heap_setCell W ⟨g, o, none⟩ v k h)
/-- What a step leaves. -/
structure Cz (w W : World) (gb base m : Nat) (v v' : Value) (vs : List Value) (u : Value) (x : List UInt8) : Prop where
  cell : W.cell? ⟨gb, 0, none⟩ = some v'
  fz : W.frozen? ⟨gb, 0, none⟩ = false
  own : W.ownsRow base 38 1 v' (m + 1) (vs ++ [u])
  mem : Mem W w.heap.size x u
  kc : Kx gb v w W
/-- .. while the result's block is there. -/
structure Cy (w W : World) (gb base m : Nat) (v v' : Value) (vs : List Value) (u : Value) (x : List UInt8) : Prop where
  s : Cz w W gb base m v v' vs u x
  res : Dg W w.heap.size zero
  obj : ∃ cs, W.heap[w.heap.size]? = some (.cells cs 29 (0, 0))
  lt : gb < w.heap.size
section
variable {w W W' : World} {gb base m : Nat} {v v' u : Value} {vs : List Value} {x : List UInt8}
theorem Cy.on (h : Cy w W gb base m v v' vs u x) (hb : Below W.heap.size W W') : Cy w W' gb base m v v' vs u x := by
  have h1 : gb < W.heap.size := Nat.lt_of_lt_of_le h.lt h.s.kc.size
  obtain ⟨cs, ho⟩ := h.obj
  exact ⟨⟨(World.cell?_of_block (hb.block gb h1)).trans h.s.cell, (World.frozen?_of_block (hb.block gb h1)).trans h.s.fz, own_below h.s.own hb, h.s.mem.on hb, h.s.kc.below hb⟩, h.res.on hb, ⟨cs, (hb.block _ (Array.getElem?_eq_some_iff.1 ho).1).trans ho⟩, h.lt⟩
theorem Cy.put (h : Cy w W gb base m v v' vs u x) {d : List UInt8} : Cz w (W.setCells w.heap.size 0 (d.map bv)) gb base m v v' vs u x := by
  obtain ⟨cs, ho⟩ := h.obj
  have hb := Hash.below_cells (Nat.le_refl w.heap.size) (d.map bv) 0 W
  have hk : ∀ k, k ≠ w.heap.size → (W.setCells w.heap.size 0 (d.map bv)).heap[k]? = W.heap[k]? := fun k hk => cells_off _ k hk _ _ _
  obtain ⟨g, c, e, hm⟩ := h.s.mem
  have hl := h.lt
  refine ⟨(World.cell?_of_block (hk gb (by omega))).trans h.s.cell, (World.frozen?_of_block (hk gb (by omega))).trans h.s.fz, own_heap h.s.own (fun k hk2 => hk k (fun e2 => own_apart dig_ne_txt h.s.own ho (by rw [hk2, e2]))),
    ⟨g, c, e, own_heap hm (fun k hk2 => hk k (fun e2 => own_apart byte_ne_dig hm ho (by rw [hk2, e2])))⟩, ⟨hb.os.trans h.s.kc.os, hb.tape.trans h.s.kc.tape, hb.output.trans h.s.kc.output, Nat.le_trans h.s.kc.size hb.size, fun k h1 h2 h3 => (hk k (by omega)).trans (h.s.kc.block k h1 h2 h3)⟩⟩
end
theorem part_len {tag : Int} {parts : List (List UInt8)} {s : List UInt8} (hs : s ∈ parts) (hb : (ofIn tag parts).length ≤ 1000000) : (encStr s).length ≤ 1000000 := by
  obtain ⟨l1, l2, rfl⟩ := List.append_of_mem hs
  simp [ofIn] at hb
  omega
/-- The new input is appended and stored. -/
theorem ct_new {w wr w4 : World} {gb base m g c : Nat} {v v4 : Value} {vs : List Value} {x : List UInt8} {t : TypeId} (hgl : gb < w.heap.size) (hgb : gb < base) (hb : Below w.heap.size w wr) (hs : w.heap.size + 1 ≤ wr.heap.size) (ho : wr.ownsRow base 38 1 v m vs) (hf : wr.frozen? ⟨gb, 0, none⟩ = false) (hr : Dg wr w.heap.size zero) (hobj : ∃ cs, wr.heap[w.heap.size]? = some (.cells cs 29 (0, 0)))
    (hrow : wr.ownsRow (w.heap.size + 1) 5 1 (.slice (some ⟨g, 0, none⟩) x.length c) x.length (x.map bv)) (hc : wr.cell? ⟨gb, 0, none⟩ = some v) (ho4 : w4.ownsRow base 38 1 v4 (m + 1) (vs ++ [.slice (some ⟨g, 0, none⟩) x.length c])) (hg4 : (wr.alloc (.cells #[.slice (some ⟨g, 0, none⟩) x.length c] t)).grownBy w4 v.ownBlock) :
    w4.frozen? ⟨gb, 0, none⟩ = false ∧ w4.cell? ⟨gb, 0, none⟩ = some v ∧ Cy w (w4.setCell ⟨gb, 0, none⟩ v4) gb base m v v4 vs (.slice (some ⟨g, 0, none⟩) x.length c) x := by
  obtain ⟨cs, hobj⟩ := hobj
  have hz := Wire.b1 wr (.cells #[.slice (some ⟨g, 0, none⟩) x.length c] t)
  have hkeep : ∀ k, k < wr.heap.size → v.ownBlock ≠ some k → w4.heap[k]? = wr.heap[k]? := fun k hk hn => (hg4.block k (by rw [Wire.size_alloc]; omega) (fun e => hn e.symm)).trans (hz.block k hk)
  have hgw : gb < wr.heap.size := Nat.lt_of_lt_of_le hgl hb.size
  have hvb : v.ownBlock ≠ some gb := fun e => by have := (ho.lt gb e).1; omega
  have hvr : v.ownBlock ≠ some w.heap.size := own_apart dig_ne_txt ho hobj
  obtain ⟨ccs, hgo⟩ := own_obj hrow
  have hvg : v.ownBlock ≠ some g := own_apart (Ne.symm byte_ne_txt) ho hgo
  have hglt := hrow.lt g rfl
  have hset : ∀ k, k ≠ gb → (w4.setCell ⟨gb, 0, none⟩ v4).heap[k]? = w4.heap[k]? := fun k hk => Below.heap_setCell w4 ⟨gb, 0, none⟩ v4 k hk
  have hc4 : w4.cell? ⟨gb, 0, none⟩ = some v := (World.cell?_of_block (hkeep gb hgw hvb)).trans hc
  have hf4 : w4.frozen? ⟨gb, 0, none⟩ = false := (World.frozen?_of_block (hkeep gb hgw hvb)).trans hf
  have hsz4 : wr.heap.size ≤ w4.heap.size := by have := hg4.size; rw [Wire.size_alloc] at this; omega
  have hres : (w4.setCell ⟨gb, 0, none⟩ v4).heap[w.heap.size]? = wr.heap[w.heap.size]? := (hset _ (by omega)).trans (hkeep _ (by omega) hvr)
  refine ⟨hf4, hc4, ⟨World.cell?_setCell_same _ _ _ hc4, (World.frozen?_setCell _ _ _ _).trans hf4, own_heap ho4 (fun k hk => hset k (fun e => by have := (ho4.lt k hk).1; omega)),
    ⟨g, c, rfl, own_heap (own_more hrow (by omega)) (fun k hk => by
      simp only [Value.ownBlock, Option.some.injEq] at hk
      subst hk
      exact (hset _ (by omega)).trans (hkeep _ hglt.2 hvg))⟩, ⟨?_, ?_, ?_, ?_, ?_⟩⟩, ⟨hr.arr.keep (fun j => World.cell?_of_block (a := ⟨w.heap.size, j, none⟩) hres) (fun j => World.frozen?_of_block (a := ⟨w.heap.size, j, none⟩) hres)⟩, ⟨cs, hres.trans hobj⟩, hgl⟩
  · exact hg4.os.trans (hz.os.trans hb.os)
  · exact hg4.tape.trans (hz.tape.trans hb.tape)
  · exact hg4.output.trans (hz.output.trans hb.output)
  · exact Nat.le_trans hb.size (Nat.le_trans hsz4 (by simp [World.setCell]))
  · exact fun k hk h1 h2 => ((hset k h1).trans (hkeep k (Nat.lt_of_lt_of_le hk hb.size) h2)).trans (hb.block k hk)

set_option maxRecDepth 100000 in
set_option maxHeartbeats 4000000 in
theorem cloI_any (tag : Int) (parts : List (List UInt8)) (n c gb base m : Nat) (A : Option Addr) (v : Value) (vs : List Value) (w : World) (hl : Lies w w.heap.size 1 A n c (parts.map sv)) (hA : ∀ b o, A = some ⟨b, o, none⟩ → b ≠ gb ∧ v.ownBlock ≠ some b)
    (hb : (ofIn tag parts).length ≤ 1000000) (ht : Table 3 w) (hg : 3 < gb) (hc : w.cell? ⟨gb, 0, none⟩ = some v) (hf : w.frozen? ⟨gb, 0, none⟩ = false)
    (hown : w.ownsRow base 38 1 v m vs) (hgb : gb < base) (hbw : base ≤ w.heap.size) (hm : m ≤ 1000000) :
    Calls Tryd.prog 65 #[.int .i64 tag, .slice A n c, .pointer (some ⟨gb, 0, none⟩)] w (fun e w' => e = .returned (dv (ofDig tag parts)) ∧ ∃ v' u, Cz w w' gb base m v v' vs u (ofIn tag parts)) := by
  obtain ⟨i0, hi, hz0, hz1, hz2⟩ := info_parts Wire.byte_info
  obtain ⟨i1, hj, hj0, hj1, hj2⟩ := info_parts txt_info
  have hmost : c ≤ 9223372036854775807 := by have := hl.most; unfold maxLen at this; omega
  have hle := hl.le
  have hpn : parts.length = n := by have := hl.len; simpa using this
  have HPN := Lib.hid hpn
  have HL := Lib.hid hl
  have HBD := Lib.hid hb
  have hs1 : (w.alloc (.cells #[.int .u8 0, .int .u8 0, .int .u8 0, .int .u8 0, .int .u8 0, .int .u8 0, .int .u8 0, .int .u8 0, .int .u8 0, .int .u8 0, .int .u8 0, .int .u8 0, .int .u8 0, .int .u8 0, .int .u8 0, .int .u8 0] 29)).heap.size = w.heap.size + 1 := World.size_alloc _ _
  have HS1 := Lib.hid hs1
  have R1 := dg_zero w 29
  have O1 : ∃ cs, (w.alloc (.cells #[.int .u8 0, .int .u8 0, .int .u8 0, .int .u8 0, .int .u8 0, .int .u8 0, .int .u8 0, .int .u8 0, .int .u8 0, .int .u8 0, .int .u8 0, .int .u8 0, .int .u8 0, .int .u8 0, .int .u8 0, .int .u8 0] 29)).heap[w.heap.size]? = some (.cells cs 29 (0, 0)) := ⟨_, heap_alloc_new w _⟩
  have Z1 := Wire.b1 w (.cells #[.int .u8 0, .int .u8 0, .int .u8 0, .int .u8 0, .int .u8 0, .int .u8 0, .int .u8 0, .int .u8 0, .int .u8 0, .int .u8 0, .int .u8 0, .int .u8 0, .int .u8 0, .int .u8 0, .int .u8 0, .int .u8 0] 29)
  have ho0 : ((w.alloc (.cells #[.int .u8 0, .int .u8 0, .int .u8 0, .int .u8 0, .int .u8 0, .int .u8 0, .int .u8 0, .int .u8 0, .int .u8 0, .int .u8 0, .int .u8 0, .int .u8 0, .int .u8 0, .int .u8 0, .int .u8 0, .int .u8 0] 29)).alloc (.cells #[bv (tagByte tag)] 5)).ownsRow (w.heap.size + 1) 5 1 (.slice (some ⟨w.heap.size + 1, 0, none⟩) 1 1) 1 ([tagByte tag].map bv) := by
    have h := Hash.own_lit1 (w.alloc (.cells #[.int .u8 0, .int .u8 0, .int .u8 0, .int .u8 0, .int .u8 0, .int .u8 0, .int .u8 0, .int .u8 0, .int .u8 0, .int .u8 0, .int .u8 0, .int .u8 0, .int .u8 0, .int .u8 0, .int .u8 0, .int .u8 0] 29)) (tagByte tag)
    rw [hs1] at h
    exact h
  have hb0 : Below (w.heap.size + 1) (w.alloc (.cells #[.int .u8 0, .int .u8 0, .int .u8 0, .int .u8 0, .int .u8 0, .int .u8 0, .int .u8 0, .int .u8 0, .int .u8 0, .int .u8 0, .int .u8 0, .int .u8 0, .int .u8 0, .int .u8 0, .int .u8 0, .int .u8 0] 29)) ((w.alloc (.cells #[.int .u8 0, .int .u8 0, .int .u8 0, .int .u8 0, .int .u8 0, .int .u8 0, .int .u8 0, .int .u8 0, .int .u8 0, .int .u8 0, .int .u8 0, .int .u8 0, .int .u8 0, .int .u8 0, .int .u8 0, .int .u8 0] 29)).alloc (.cells #[bv (tagByte tag)] 5)) := by
    have h := Wire.b1 (w.alloc (.cells #[.int .u8 0, .int .u8 0, .int .u8 0, .int .u8 0, .int .u8 0, .int .u8 0, .int .u8 0, .int .u8 0, .int .u8 0, .int .u8 0, .int .u8 0, .int .u8 0, .int .u8 0, .int .u8 0, .int .u8 0, .int .u8 0] 29)) (.cells #[bv (tagByte tag)] 5)
    rw [hs1] at h
    exact h
  have e0 : (.int .u8 (tag % 256) : Value) = bv (tagByte tag) := by unfold bv; rw [tagByte_eq]
  rw [← e0] at ho0 hb0
  have HR1 := Lib.hid R1
  have HO1 := Lib.hid O1
  have HZ1 := Lib.hid Z1
  have HT := Lib.hid ht
  have HA := Lib.hid hA
  have HOW := Lib.hid hown
  have HGB := Lib.hid hgb
  have HG := Lib.hid hg
  have HBW := Lib.hid hbw
  have HC := Lib.hid hc
  have HF := Lib.hid hf
  have HDL := Lib.hid (sh_length (ofIn tag parts))
  clear hpn hl hb e0 hA ht hg hc hf hown hgb hbw R1 O1 Z1 hs1
  go_enter Tryd.func65, Tryd.ntmps65
  go_wp2
  go_loopw [6, 14] (fun b iv wr => ∃ (k L : Nat), k ≤ n ∧ iv = .int .i64 (k : Int) ∧ L = (tagByte tag :: (parts.take k).flatMap encStr).length ∧ wr.ownsRow (w.heap.size + 1) 5 1 b L ((tagByte tag :: (parts.take k).flatMap encStr).map bv) ∧ Below (w.heap.size + 1) (w.alloc (.cells #[.int .u8 0, .int .u8 0, .int .u8 0, .int .u8 0, .int .u8 0, .int .u8 0, .int .u8 0, .int .u8 0, .int .u8 0, .int .u8 0, .int .u8 0, .int .u8 0, .int .u8 0, .int .u8 0, .int .u8 0, .int .u8 0] 29)) wr) (fun _ iv _ => n - (intOf iv).toNat)
  case atStart => exact ⟨0, 1, by omega, rfl, rfl, ho0, hb0⟩
  case round =>
    clear ho0 hb0
    obtain ⟨k, L, hk, rfl, hL, hown, hbw⟩ := hrel
    by_cases hkn : k < n
    · obtain ⟨b, o, u, rfl, hbb, hu, hcx⟩ := ((HL.out.below HZ1.out).below (hbw.mono (by omega))).at_ hkn
      obtain ⟨x, hx⟩ : ∃ x, parts[k]? = some x := ⟨_, List.getElem?_eq_getElem (by rw [HPN.out]; exact hkn)⟩
      rw [List.getElem?_map, hx] at hu
      cases hu
      have hsn : tagByte tag :: (parts.take (k + 1)).flatMap encStr = (tagByte tag :: (parts.take k).flatMap encStr) ++ encStr x := by rw [Wire.flat_snoc encStr parts hx]; rfl
      have hfl : (tagByte tag :: (parts.take (k + 1)).flatMap encStr).length ≤ 1000000 := by
        have h1 := HBD.out
        have h2 := Hash.flat_le (parts := parts) (k := k + 1)
        simp only [ofIn, List.length_cons] at h1 ⊢
        omega
      rw [hsn, List.length_append, ← hL] at hfl
      have HS := Lib.hid hsn
      generalize tagByte tag :: (parts.take k).flatMap encStr = ms at hown hL HS
      have HBY : Hid (∀ W, Calls Tryd.prog 61 #[.string ⟨x.toArray⟩] W (Wire.Made W (encStr x).length (encStr x))) := Lib.hid (fun W => Wire.bytes_any x W (by omega))
      have HEL := Lib.hid hL
      generalize encStr x = E at HBY HS hfl
      have y0 : (0 : Int) ≤ (k : Int) := by omega
      have y1 : (k : Int) < (n : Int) := by omega
      have hsz : w.heap.size + 1 ≤ wr.heap.size := by have := hbw.size; rw [HS1.out] at this; exact this
      have HSZ := Lib.hid hsz
      unfold sv at hcx
      clear hx hsn hL hsz
      go_wp2_with (first
        | (go_at_call 61; (with_reducible refine (HBY.out _).mono ?_); rintro e w3 ⟨g3, c3, rfl, ho3, hb3⟩)
        | (at_builtin; refine wpList_append_own _ rfl (.tmp 18) (.tmp 20) _ rfl (w.heap.size + 1) 5 i0 (.int .u8 0) 1 1 Tryd.underlying38 hi hz0 hz1 hz2 rfl (by decide) _ _ _ rfl (own_below hown hb3) ⟨g3, 0, none⟩ E.length _ (E.map bv) rfl (by simp) (Hash.lies_news (Wire.lies_own ho3)) (Wire.bytes_one _) (by unfold maxLen; omega) (by omega) (Nat.le_trans HSZ.out hb3.size) ?_; intro v4 w4 ho4 hg4 _))
      go_roundw
      case rel =>
        refine ⟨k + 1, L + E.length, by omega, by go_num, by rw [HS.out, List.length_append, HEL.out], by rw [HS.out, List.map_append]; exact ho4, ?_⟩
        exact (hbw.trans (hb3.mono HSZ.out)).grown hg4 (Nat.le_trans HSZ.out hb3.size) (fun q hq => (hown.lt q hq).1)
      case measure => simp [intOf]; omega
    · have hk2 : k = n := by omega
      have y1 : ¬ (k : Int) < (n : Int) := by omega
      have hsz : w.heap.size + 1 ≤ wr.heap.size := by have := hbw.size; rw [HS1.out] at this; exact this
      have HE : Hid (∃ g' c', u6 = .slice (some ⟨g', 0, none⟩) (ofIn tag parts).length c' ∧ wr.ownsRow (w.heap.size + 1) 5 1 u6 (ofIn tag parts).length ((ofIn tag parts).map bv)) := Lib.hid (by
        have e : tagByte tag :: (parts.take k).flatMap encStr = ofIn tag parts := by rw [List.take_of_length_le (by rw [HPN.out]; omega)]; rfl
        rw [e] at hL hown
        subst hL
        obtain ⟨g, c', rfl, _⟩ := Wire.own_form hown (by simp [ofIn])
        exact ⟨g, c', rfl, hown⟩)
      obtain ⟨gx, cx, rfl, hrow⟩ := HE.out
      have HROW := Lib.hid hrow
      have hbb : Below w.heap.size w wr := HZ1.out.trans (hbw.mono (by omega))
      have HBB := Lib.hid hbb
      have hgl : gb < w.heap.size := by have := HGB.out; have := HBW.out; omega
      have c1 : wr.cell? ⟨gb, 0, none⟩ = some v := (World.cell?_of_block (hbb.block gb hgl)).trans HC.out
      have HO2 : Hid (wr.ownsRow base 38 1 v m vs) := Lib.hid (own_below HOW.out hbb)
      have HFZ : Hid (wr.frozen? ⟨gb, 0, none⟩ = false) := Lib.hid ((World.frozen?_of_block (hbb.block gb hgl)).trans HF.out)
      have HRD : Hid (Dg wr w.heap.size zero ∧ ∃ cs, wr.heap[w.heap.size]? = some (.cells cs 29 (0, 0))) := Lib.hid ⟨HR1.out.on (by rw [HS1.out]; exact hbw), by
        obtain ⟨cs, h⟩ := HO1.out
        exact ⟨cs, (hbw.block _ (by omega)).trans h⟩⟩
      have HGL := Lib.hid hgl
      have HSZ := Lib.hid hsz
      clear hL hown hbw hbb hgl hrow hsz HE hk2 HS1 HR1 HO1
      go_wp2_with (first
        | (at_builtin; refine wpList_append_own _ rfl (.tmp 23) (.tmp 25) _ rfl base 38 i1 (.slice none 0 0) 1 24 Tryd.underlying48 hj hj0 hj1 hj2 rfl (by decide) v m vs rfl (HO2.out.alloc _) ⟨wr.heap.size, 0, none⟩ 1 1 [.slice (some ⟨gx, 0, none⟩) (ofIn tag parts).length cx] rfl rfl (fun j z hz => by
            cases j with
            | zero => cases hz; exact lit_cell wr _ _
            | succ j => simp at hz) (fun z hz => by rw [List.mem_singleton.1 hz]; rfl) (by unfold maxLen; omega) (by omega) (by have := HBB.out.size; have := HBW.out; rw [Wire.size_alloc]; omega) ?_; intro v4 w4 ho4 hg4 _; obtain ⟨g4, cap4, rfl, -⟩ := Wire.own_form ho4 (by omega); have hCT := ct_new HGL.out HGB.out HBB.out HSZ.out HO2.out HFZ.out HRD.out.1 HRD.out.2 HROW.out c1 ho4 hg4; have f4 := hCT.1; have c4 := hCT.2.1; have HCT := Lib.hid hCT.2.2; clear ho4 hg4 hCT c1)
        | (go_at_call 39; refine Hash.gen_world (Pq := fun W => Cy w W gb base m v (.slice (some ⟨g4, 0, none⟩) (m + 1) cap4) vs (.slice (some ⟨gx, 0, none⟩) (ofIn tag parts).length cx) (ofIn tag parts)) (G := fun W => Calls _ _ _ W _) HCT.out ?_; clear HCT c4 f4; intro w5 Y; (with_reducible refine (Hash.of_any tag parts n c A _ (Y.s.kc.lies HL.out HA.out) (fun s hs => Nat.le_trans (part_len hs HBD.out) (by decide)) (Y.s.kc.table HOW.out HG.out HGB.out HT.out)).mono ?_); rintro e w6 ⟨rfl, hb6⟩; replace Y := Y.on hb6; clear hb6)
        | (refine store_d (.tmp 5) (.tmp 29) rfl rfl w.heap.size 0 rfl (ofDig tag parts) rfl HDL.out Y.res.there ?_))
      have HEN := run_loadVar_mid (P := Tryd.prog) _ w.heap.size 0 29 ((ofDig tag parts).map bv) _ (Y.res.put HDL.out).range und_d rfl (info_d HDL.out)
      refine bodyPost_ret (v := dv (ofDig tag parts)) ?_ rfl ⟨rfl, _, _, Y.put⟩
      simp [results, Tryd.results65, asAddr, Act.put]
      exact HEN
end Mk
end Go.Proofs.YthpkeaafgabjiaaDoor

/- The package merkle: inputs. Conditions: the slice reads as a list of digests, the tables are laid. -/
namespace Go.Proofs.YthpkeaafgabjiaaDoor
open Go.RowKit
namespace Mk
open Wire (bv sv Lies encStr own_below own_more)
open Hash (Arr Table bcj ofDig ofIn)

/-- The box holds the inputs so far. -/
structure Ii (w0 : World) (gb : Nat) (L : List (List UInt8)) (W : World) : Prop where
  data : ∃ v vs, W.cell? ⟨gb, 0, none⟩ = some v ∧ W.frozen? ⟨gb, 0, none⟩ = false ∧ W.ownsRow (gb + 1) 38 1 v L.length vs ∧ ∀ (i : Nat) (x : List UInt8), L.reverse[i]? = some x → ∃ u, vs[i]? = some u ∧ Mem W (gb + 1) x u
  z : Below w0.heap.size w0 W
  lt : gb < W.heap.size
  ge : w0.heap.size ≤ gb
/-- What steps leave alone. -/
def FrI (gb : Nat) (W : World) (k : Nat) : Prop := k < W.heap.size ∧ k ≠ gb ∧ (k < gb ∨ ∀ o, W.heap[k]? = some o → Good o)
theorem good_back {W : World} {g : Nat} (h : ∀ o, W.heap[g]? = some o → Good o) : ∀ (vs : List Value) (o : Nat) (W' : World), (∀ x, W'.heap[g]? = some x → Good x) → ∀ x, (W'.setCells g o vs).heap[g]? = some x → Good x
  | [], _, _, h' => h'
  | v :: r, o, W', h' => good_back h r (o + 1) _ (fun x hx => by
    cases hg : W'.heap[g]? with
    | none =>
      simp [World.setCell, Array.getElem?_modify, hg] at hx
    | some y =>
      have hy := h' y hg
      cases y with
      | cells cs e f =>
        simp [World.setCell, Array.getElem?_modify, hg] at hx
        subst hx
        intro cs2 e2 f2 he
        cases he
        exact hy cs e f rfl
      | _ =>
        simp [World.setCell, Array.getElem?_modify, hg] at hx
        subst hx
        exact hy)
theorem own_free {W : World} {gb s n k : Nat} {e : TypeId} {v : Value} {xs : List Value} (he : e = 38 ∨ e = 5) (h : W.ownsRow (gb + 1) e s v n xs) (hf : FrI gb W k) : v.ownBlock ≠ some k := by
  intro e1
  rcases hf.2.2 with h1 | h1
  · have := (h.lt k e1).1; omega
  · rcases h.2 with ⟨rfl, _⟩ | ⟨g, cap, cur, rfl, _, hg, _⟩
    · cases e1
    · simp only [Value.ownBlock, Option.some.injEq] at e1
      subst e1
      have h2 := h1 _ hg cur e (0, 0) rfl
      rcases he with rfl | rfl
      · exact h2.1 rfl
      · exact h2.2 rfl
theorem steps_in (w0 : World) (gb : Nat) : Steps w0.heap.size (Ii w0 gb) (FrI gb) := by
  refine ⟨fun W k h => h.1, fun L W W' h hb => ?_, fun L W W' k h hb hf => ?_, fun L W W' k o h hb hk ho hg => ?_, fun L W g ws h hf hg => ?_, fun L W g ws k h hf hg hk => ?_⟩
  · obtain ⟨v, vs, h1, h2, h3, h4⟩ := h.data
    have hc := hb.block gb h.lt
    exact ⟨⟨v, vs, (World.cell?_of_block hc).trans h1, (World.frozen?_of_block hc).trans h2, own_below h3 hb, fun i x hx => by obtain ⟨u, hu, hm⟩ := h4 i x hx; exact ⟨u, hu, hm.on hb⟩⟩, bcj h.z hb, Nat.lt_of_lt_of_le h.lt hb.size, h.ge⟩
  · exact ⟨Nat.lt_of_lt_of_le hf.1 hb.size, hf.2.1, hf.2.2.imp id (fun h1 o ho => h1 o ((hb.block k hf.1).symm.trans ho))⟩
  · refine ⟨(Array.getElem?_eq_some_iff.1 ho).1, by have := h.lt; omega, .inr fun o2 ho2 => ?_⟩
    rw [ho] at ho2
    cases ho2
    exact hg
  · obtain ⟨v, vs, h1, h2, h3, h4⟩ := h.data
    have hc := cells_off g gb (Ne.symm hf.2.1) ws 0 W
    refine ⟨⟨v, vs, (World.cell?_of_block hc).trans h1, (World.frozen?_of_block hc).trans h2, own_heap h3 (fun k hk => cells_off g k (fun e => own_free (.inl rfl) h3 hf (by rw [hk, e])) ws 0 W), fun i x hx => ?_⟩, h.z.trans (Hash.below_cells hg ws 0 W), Nat.lt_of_lt_of_le h.lt (Hash.below_cells (Nat.le_refl g) ws 0 W).size, h.ge⟩
    obtain ⟨u, hu, gu, cu, e, hm⟩ := h4 i x hx
    exact ⟨u, hu, gu, cu, e, own_heap hm (fun k hk => cells_off g k (fun e2 => own_free (.inr rfl) hm hf (by rw [hk, e2])) ws 0 W)⟩
  · have hs := (Hash.below_cells (Nat.le_refl g) ws 0 W).size
    refine ⟨Nat.lt_of_lt_of_le hk.1 hs, hk.2.1, hk.2.2.imp id (fun h1 o ho => ?_)⟩
    by_cases hkg : k = g
    · subst hkg
      exact good_back h1 ws 0 W h1 o ho
    · exact h1 o ((cells_off g k hkg ws 0 W).symm.trans ho)
/-- A step, seen from the caller. -/
theorem step_in {w0 W W1 W2 : World} {gb m : Nat} {v v' u : Value} {vs : List Value} {x : List UInt8} {L : List (List UInt8)} (hI : Ii w0 gb L W) (hb : Below W.heap.size W W1) (ho : W.ownsRow (gb + 1) 38 1 v L.length vs) (h4 : ∀ (i : Nat) (y : List UInt8), L.reverse[i]? = some y → ∃ z, vs[i]? = some z ∧ Mem W (gb + 1) y z)
    (hm : m = L.length) (h : Cz W1 W2 gb (gb + 1) m v v' vs u x) : Ii w0 gb (x :: L) W2 ∧ Kp (FrI gb) W W2 := by
  subst hm
  have hk : ∀ k, k < W.heap.size → k ≠ gb → v.ownBlock ≠ some k → W2.heap[k]? = W.heap[k]? := fun k h1 h2 h3 => (h.kc.block k (Nat.lt_of_lt_of_le h1 hb.size) h2 h3).trans (hb.block k h1)
  have hsz : W.heap.size ≤ W2.heap.size := Nat.le_trans hb.size h.kc.size
  have hvl : vs.length = L.length := by have := ho.1; omega
  refine ⟨⟨⟨v', vs ++ [u], h.cell, h.fz, h.own, fun i y hy => ?_⟩, ⟨h.kc.os.trans (hb.os.trans hI.z.os), h.kc.tape.trans (hb.tape.trans hI.z.tape), h.kc.output.trans (hb.output.trans hI.z.output), Nat.le_trans hI.z.size hsz, fun k hk0 => ?_⟩, Nat.lt_of_lt_of_le hI.lt hsz, hI.ge⟩, ⟨h.kc.os.trans hb.os, h.kc.tape.trans hb.tape, h.kc.output.trans hb.output, hsz, fun k hf => ?_, fun k hf => ?_⟩⟩
  · rw [List.reverse_cons] at hy
    by_cases hi : i < L.length
    · rw [List.getElem?_append_left (by rw [List.length_reverse]; exact hi)] at hy
      obtain ⟨z, hz, gz, cz, e, hr⟩ := h4 i y hy
      refine ⟨z, by rw [List.getElem?_append_left (by omega)]; exact hz, gz, cz, e, own_heap hr (fun k hk2 => ?_)⟩
      have hlt := hr.lt k hk2
      subst e
      simp only [Value.ownBlock, Option.some.injEq] at hk2
      subst hk2
      obtain ⟨cs, hobj⟩ := own_obj hr
      exact hk _ hlt.2 (by omega) (own_apart (Ne.symm byte_ne_txt) ho hobj)
    · have hi2 : i = L.length := by
        have := (List.getElem?_eq_some_iff.1 hy).1
        rw [List.length_append, List.length_reverse, List.length_singleton] at this
        omega
      rw [List.getElem?_append_right (by rw [List.length_reverse]; omega), List.length_reverse, hi2, Nat.sub_self] at hy
      cases hy
      exact ⟨u, by rw [List.getElem?_append_right (by omega), hvl, hi2, Nat.sub_self]; rfl, h.mem.more (by have := hI.lt; have := hb.size; omega)⟩
  · have h1 := hI.z.size
    have h2 := hI.ge
    exact (hk k (by omega) (by omega) (fun e => by have := (ho.lt k e).1; omega)).trans (hI.z.block k hk0)
  · exact hk k hf.1 hf.2.1 (own_free (.inl rfl) ho hf)
  · exact ⟨Nat.lt_of_lt_of_le hf.1 hsz, hf.2.1, hf.2.2.imp id (fun h1 o ho2 => h1 o ((hk k hf.1 hf.2.1 (own_free (.inl rfl) ho hf)).symm.trans ho2))⟩
theorem step1_in {w0 : World} {gb : Nat} (ht : TP w0) (x : List UInt8) (L : List (List UInt8)) (W : World) (hx : x.length = 16) (hL : L.length ≤ 100) (hI : Ii w0 gb L W) :
    Calls Tryd.prog 65 (#[.int .i64 1, .slice (some ⟨W.heap.size, 0, none⟩) 1 1, .pointer (some ⟨gb, 0, none⟩)]) (W.alloc (.cells #[.string ⟨x.toArray⟩] 9)) (GivesN (FrI gb) (Ii w0 gb) (HH.li x) L W) := by
  obtain ⟨v, vs, h1, h2, h3, h4⟩ := hI.data
  have hb := Wire.b1 W (.cells #[.string ⟨x.toArray⟩] 9)
  have hc := hb.block gb hI.lt
  have hg : 3 < gb := Nat.lt_of_lt_of_le ht.a.size hI.ge
  refine (cloI_any 1 [x] 1 1 gb (gb + 1) L.length _ v vs _ (lit1 W x) (fun b o e => ?_) (ofIn_one hx) ((ht.on hI.z).on hb).a hg ((World.cell?_of_block hc).trans h1) ((World.frozen?_of_block hc).trans h2) (own_below h3 hb) (Nat.lt_succ_self _) (by have := hI.lt; have := hb.size; omega) (by omega)).mono fun e W2 ⟨he, v', u, hcz⟩ => ?_
  · cases e
    exact ⟨by have := hI.lt; omega, fun e2 => by have := (h3.lt _ e2).2; omega⟩
  · exact ⟨he, step_in hI hb h3 h4 rfl hcz⟩
theorem step2_in {w0 : World} {gb : Nat} (ht : TP w0) (x y : List UInt8) (L : List (List UInt8)) (W : World) (hx : x.length = 16) (hy : y.length = 16) (hL : L.length ≤ 100) (hI : Ii w0 gb L W) :
    Calls Tryd.prog 65 (#[.int .i64 2, .slice (some ⟨W.heap.size, 0, none⟩) 2 2, .pointer (some ⟨gb, 0, none⟩)]) (W.alloc (.cells #[.string ⟨x.toArray⟩, .string ⟨y.toArray⟩] 9)) (GivesN (FrI gb) (Ii w0 gb) (HH.ni x y) L W) := by
  obtain ⟨v, vs, h1, h2, h3, h4⟩ := hI.data
  have hb := Wire.b1 W (.cells #[.string ⟨x.toArray⟩, .string ⟨y.toArray⟩] 9)
  have hc := hb.block gb hI.lt
  have hg : 3 < gb := Nat.lt_of_lt_of_le ht.a.size hI.ge
  refine (cloI_any 2 [x, y] 2 2 gb (gb + 1) L.length _ v vs _ (lit2 W x y) (fun b o e => ?_) (ofIn_two hx hy) ((ht.on hI.z).on hb).a hg ((World.cell?_of_block hc).trans h1) ((World.frozen?_of_block hc).trans h2) (own_below h3 hb) (Nat.lt_succ_self _) (by have := hI.lt; have := hb.size; omega) (by omega)).mono fun e W2 ⟨he, v', u, hcz⟩ => ?_
  · cases e
    exact ⟨by have := hI.lt; omega, fun e2 => by have := (h3.lt _ e2).2; omega⟩
  · exact ⟨he, step_in hI hb h3 h4 rfl hcz⟩

/-- The inputs of a proof, the root that it leads to, and whether it has as many elements as it must. -/
def GivesJ (o : Option (List (List UInt8))) (w : World) (e : Ending) (w' : World) : Prop :=
  ∃ v n R, R.length = 16 ∧ (∀ t l, o = some (t :: l) → R = HH.sh t) ∧ e = .returned (.tuple #[v, dv R, .bool o.isSome]) ∧ OwnT w' w.heap.size v n (o.getD []).reverse ∧ Below w.heap.size w w'
end Mk
end Go.Proofs.YthpkeaafgabjiaaDoor

/- The package merkle: inputs. Conditions: the slice reads as a list of digests, the tables are laid. -/
namespace Go.Proofs.YthpkeaafgabjiaaDoor
open Go.RowKit
namespace Mk
open Wire (bv sv Lies encStr own_below own_more)
open Hash (Arr Table bcj ofDig ofIn)

/-- What is there behind follow. -/
structure Jr (w W : World) (gb gx : Nat) (v : Value) (n : Nat) (L : List (List UInt8)) (R : List UInt8) : Prop where
  cell : W.cell? ⟨gb, 0, none⟩ = some v
  r : ∃ d, Dg W (w.heap.size + 1) d
  x : Dg W gx R
  own : OwnT W (gb + 1) v n L
  z : Below w.heap.size w W
  lt : w.heap.size + 1 < gb
  lx : gb < gx
theorem Jr.on {w W W' : World} {gb gx n : Nat} {v : Value} {L : List (List UInt8)} {R : List UInt8} (h : Jr w W gb gx v n L R) (hb : Below W.heap.size W W') : Jr w W' gb gx v n L R := by
  obtain ⟨d, hd⟩ := h.r
  have hg : gb < W.heap.size := World.block_lt_of_cell? W _ h.cell
  exact ⟨(World.cell?_of_block (hb.block gb hg)).trans h.cell, ⟨d, hd.on hb⟩, h.x.on hb, h.own.on hb, bcj h.z hb, h.lt, h.lx⟩
theorem ownT_off {W : World} {base g n : Nat} {v : Value} {L : List (List UInt8)} (h : OwnT W base v n L) (hg : g < base) (ws : List Value) : OwnT (W.setCells g 0 ws) base v n L := by
  obtain ⟨vs, h1, h2, h3⟩ := h
  refine ⟨vs, own_heap h1 (fun k hk => cells_off g k (by have := (h1.lt k hk).1; omega) ws 0 W), h2, fun i x hx => ?_⟩
  obtain ⟨u, hu, gu, cu, e, hm⟩ := h3 i x hx
  exact ⟨u, hu, gu, cu, e, own_heap hm (fun k hk => cells_off g k (by have := (hm.lt k hk).1; omega) ws 0 W)⟩
theorem Jr.put {w W : World} {gb gx n : Nat} {v : Value} {L : List (List UInt8)} {R D : List UInt8} (h : Jr w W gb gx v n L R) (hd : D.length = 16) : Jr w (W.setCells (w.heap.size + 1) 0 (D.map bv)) gb gx v n L R := by
  have h1 := h.lt
  have h2 := h.lx
  obtain ⟨d, hr⟩ := h.r
  exact ⟨(World.cell?_of_block (cells_off _ gb (by omega) _ 0 W)).trans h.cell, ⟨D, hr.put hd⟩, h.x.aside (by omega) _, ownT_off h.own (by omega) _, h.z.trans (Hash.below_cells (B := w.heap.size) (by omega) _ _ _), h1, h2⟩

set_option maxRecDepth 100000 in
set_option maxHeartbeats 4000000 in
theorem inputs_any (n i : Int) (d : List UInt8) (hd : d.length = 16) (q c : Nat) (A : Option Addr) (p : List (List UInt8)) (w : World) (hn : n ≤ 9223372036854775807) (hl : LiesD w w.heap.size A q c p) (ht : TP w) :
    Calls Tryd.prog 49 #[.int .i64 n, .int .i64 i, dv d, .slice A q c] w (GivesJ (inpI n i d p) w) := by
  obtain ⟨w2, hw2⟩ : ∃ w2, w2 = (w.alloc (.cells (d.map bv).toArray 29)).alloc (.cells #[.int .u8 0, .int .u8 0, .int .u8 0, .int .u8 0, .int .u8 0, .int .u8 0, .int .u8 0, .int .u8 0, .int .u8 0, .int .u8 0, .int .u8 0, .int .u8 0, .int .u8 0, .int .u8 0, .int .u8 0, .int .u8 0] 29) := ⟨_, rfl⟩
  obtain ⟨w3, hw3⟩ : ∃ w3, w3 = w2.alloc (.cells #[.slice none 0 0] 48) := ⟨_, rfl⟩
  have hs2 : w2.heap.size = w.heap.size + 1 + 1 := by rw [hw2, World.size_alloc, World.size_alloc]
  have hs3 : w3.heap.size = w.heap.size + 1 + 1 + 1 := by rw [hw3, World.size_alloc, hs2]
  have hz2 : Below w.heap.size w w2 := by rw [hw2]; exact bcj (Wire.b1 _ _) (Wire.b1 _ _)
  have hz3 : Below w2.heap.size w2 w3 := by rw [hw3]; exact Wire.b1 _ _
  have D2 : Dg w2 w.heap.size d ∧ Dg w2 (w.heap.size + 1) zero := by
    have h1 := (dg_new w hd 29).on (Wire.b1 _ (.cells #[.int .u8 0, .int .u8 0, .int .u8 0, .int .u8 0, .int .u8 0, .int .u8 0, .int .u8 0, .int .u8 0, .int .u8 0, .int .u8 0, .int .u8 0, .int .u8 0, .int .u8 0, .int .u8 0, .int .u8 0, .int .u8 0] 29))
    have h2 := dg_zero (w.alloc (.cells (d.map bv).toArray 29)) 29
    rw [Wire.size_alloc] at h2
    rw [hw2]
    exact ⟨h1, h2⟩
  have hc3 : w3.cell? ⟨w.heap.size + 1 + 1, 0, none⟩ = some (.slice none 0 0) ∧ w3.frozen? ⟨w.heap.size + 1 + 1, 0, none⟩ = false := by
    have h := Hash.arr_new w2 #[.slice none 0 0] 48
    rw [hw3, ← hs2]
    exact ⟨h.cells 0 _ rfl, h.free 0 (by decide)⟩
  have hI0 : Ii w2 (w.heap.size + 1 + 1) [] w3 := ⟨⟨.slice none 0 0, [], hc3.1, hc3.2, World.ownsRow_nil _ _ _ _, fun i x hx => by simp at hx⟩, hz3, by omega, by omega⟩
  have Z3 := hz2.trans (hz3.mono (by omega))
  have hfo := followI_any (steps_in w2 (w.heap.size + 1 + 1)) (w.heap.size + 1 + 1) n i d hd q c A p w3 hn ((hl.below Z3).more Z3.size) (fun b o e hq hb => by
      obtain ⟨b', o', e', hb', -⟩ := hl.lies.cells (by omega)
      rw [e] at e'
      cases e'
      exact ⟨hb, by omega, .inl (by omega)⟩) hI0 (by omega) (step1_in (ht.on hz2)) (step2_in (ht.on hz2))
  have HD := Lib.hid hd
  have P3 := D2.1.on hz3
  have HEN : Hid (∀ o e W, GivesF (FrI (w.heap.size + 1 + 1)) (Ii w2 (w.heap.size + 1 + 1)) o w3 e W → ∃ R v m, R.length = 16 ∧ (∀ t l, o = some (t :: l) → R = HH.sh t) ∧ e = .returned (.tuple #[dv R, .bool o.isSome]) ∧
      Jr w ((W.alloc (.cells #[.int .u8 0, .int .u8 0, .int .u8 0, .int .u8 0, .int .u8 0, .int .u8 0, .int .u8 0, .int .u8 0, .int .u8 0, .int .u8 0, .int .u8 0, .int .u8 0, .int .u8 0, .int .u8 0, .int .u8 0, .int .u8 0] 29)).setCells W.heap.size 0 (R.map bv)) (w.heap.size + 1 + 1) W.heap.size v m (o.getD []).reverse R) := Lib.hid (fun o e W ⟨R, hR, h1, h2, hI, hk⟩ => by
    obtain ⟨v, vs, g1, g2, g3, g4⟩ := hI.data
    have hvl : vs.length = (o.getD []).length := by have := g3.1; omega
    have hb := below_new W R 29
    have hfr : FrI (w.heap.size + 1 + 1) w3 (w.heap.size + 1) := ⟨by omega, by omega, .inl (by omega)⟩
    have hres : Dg W (w.heap.size + 1) zero := (D2.2.on hz3).kp hk hfr
    have hlt := hI.lt
    refine ⟨R, v, (o.getD []).length, hR, h1, h2, ⟨(World.cell?_of_block (hb.block _ hlt)).trans g1, ⟨zero, hres.on hb⟩, (dg_zero W _).put hR, ⟨vs, own_below g3 hb, by rw [hvl, List.length_reverse], fun i x hx => by
      obtain ⟨u, hu, hm⟩ := g4 i x hx
      exact ⟨u, hu, hm.on hb⟩⟩, ?_, by omega, hlt⟩⟩
    refine ⟨hb.os.trans (hk.os.trans Z3.os), hb.tape.trans (hk.tape.trans Z3.tape), hb.output.trans (hk.output.trans Z3.output), by have h5 := hk.size; have h6 := hb.size; omega, fun k hk2 => ?_⟩
    exact (hb.block k (by have := hk.size; omega)).trans ((hk.block k ⟨by omega, by omega, .inl (by omega)⟩).trans (Z3.block k hk2)))
  have HFO := Lib.hid hfo
  generalize inpI n i d p = o at *
  have hp3 := P3.range
  rw [hw3, hw2] at hp3 HFO
  have HP3 := Lib.hid hp3
  have HSZ2 : Hid (((w.alloc (.cells (d.map bv).toArray 29)).alloc (.cells #[.int .u8 0, .int .u8 0, .int .u8 0, .int .u8 0, .int .u8 0, .int .u8 0, .int .u8 0, .int .u8 0, .int .u8 0, .int .u8 0, .int .u8 0, .int .u8 0, .int .u8 0, .int .u8 0, .int .u8 0, .int .u8 0] 29)).heap.size = w.heap.size + 1 + 1) := Lib.hid (by rw [World.size_alloc, World.size_alloc])
  rw [hw3, hw2] at HEN
  clear hfo hl ht hn hd hI0 hc3 D2 hz2 hz3 Z3 P3 hp3 hs2 hs3 hw2 hw3
  unfold dv at HFO ⊢
  go_enter Tryd.func49, Tryd.ntmps49
  go_wp2_with (first
    | (refine load_d 17 rfl rfl (.tmp 6) rfl w.heap.size 0 rfl d HD.out HP3.out ?_; unfold dv)
    | (go_at_call 46; (with_reducible refine HFO.out.mono ?_); intro e w5 h5; obtain ⟨R, v, m, hR, h1, rfl, h6⟩ := HEN.out _ _ _ h5; unfold dv; have HRL := Lib.hid hR; have HR1 := Lib.hid h1; have HJ := Lib.hid h6; clear hR h1 h5 h6)
    | (refine store_d (.tmp 12) (.tmp 21) rfl rfl w5.heap.size 0 rfl R rfl HRL.out (dg_zero w5 _).there ?_; refine Hash.gen_world (Pq := fun W => Jr w W (w.heap.size + 1 + 1) w5.heap.size v m (o.getD []).reverse R) (G := fun W => wpList _ _ _ _ _ W) HJ.out ?_; clear HJ; intro w6 Y))
  refine RegC.region (fun W => Jr w W (w.heap.size + 1 + 1) w5.heap.size v m (o.getD []).reverse R) [] (by kernel_rfl) ?_
  replace Y := Y.on (Hash.belowD _)
  have HV : Hid (∀ W, Jr w W (w.heap.size + 1 + 1) w5.heap.size v m (o.getD []).reverse R → W.cell? ⟨w.heap.size + 1 + 1, 0, none⟩ = some v) := Lib.hid (fun W h => h.cell)
  (refine RegC.take (i := 0) (v := v) rfl (by kernel_rfl) (by kernel_rfl) (by kernel_rfl) (by kernel_rfl) (by kernel_rfl) (fun _ _ _ h => h) (Or.inl ⟨by rfl, ?_⟩) Y ?_; focus (intro W hW; go_simp; first | (rw [HV.out W hW]; rfl) | (rw [HV.out W hW]; done) | (simp only [HV.out W hW]; done)))
  (refine RegC.take (i := 1) (v := (.agg (R.map bv).toArray)) rfl (by kernel_rfl) (by kernel_rfl) (by kernel_rfl) (by kernel_rfl) (by kernel_rfl) (fun _ _ _ h => h) (Or.inl ⟨by rfl, fun W hW => ?_⟩) Y ?_; focus (exact (RegC.exec_rowC 29 (.tmp 12) rfl w5.heap.size 0 (by go_simp) (R.map bv) _ hW.x.range und_d rfl (info_d HRL.out))))
  (refine RegC.take (i := 2) (v := ?_) rfl (by kernel_rfl) (by kernel_rfl) (by kernel_rfl) (by kernel_rfl) (by kernel_rfl) (fun _ _ _ h => h) (Or.inl ⟨by rfl, ?_⟩) Y ?_; rotate_left 1; focus (intro W hW; go_simp; try (first | with_reducible rfl | (rw [if_pos (by omega)]; done) | (rw [if_pos (by omega), if_neg (by omega)]; done) | (rw [if_neg (by omega)]; done))))
  (refine RegC.take (i := 3) (v := ?_) rfl (by kernel_rfl) (by kernel_rfl) (by kernel_rfl) (by kernel_rfl) (by kernel_rfl) (fun _ _ _ h => h) (Or.inl ⟨by rfl, ?_⟩) Y ?_; rotate_left 1; focus (intro W hW; go_simp; try (first | with_reducible rfl | (rw [if_pos (by omega)]; done) | (rw [if_pos (by omega), if_neg (by omega)]; done) | (rw [if_neg (by omega)]; done))))
  have HTH : Hid (w6.drew.there (w.heap.size + 1) 0 (R.map bv).toArray.size) := Lib.hid (by
    obtain ⟨d0, h0⟩ := Y.r
    exact h0.thereA HRL.out)
  have HX : Hid ((loadVar 29 ⟨w.heap.size + 1, 0, none⟩).run Tryd.prog (w6.drew.setCells (w.heap.size + 1) 0 (R.map bv)) = .ok (dv R) (w6.drew.setCells (w.heap.size + 1) 0 (R.map bv))) := Lib.hid (by
    obtain ⟨d0, h0⟩ := Y.r
    exact run_loadVar_mid _ _ _ _ _ _ (h0.put HRL.out).range und_d rfl (info_d HRL.out))
  have Y4 := Y.put HRL.out
  refine RegC.store1 4 (by kernel_rfl) rfl rfl 29 (.tmp 9) (.tmp 24) rfl (w.heap.size + 1) 0 (R.map bv).toArray (by go_simp) (by go_simp) HTH.out (info_dA HRL.out) (one_d R) Y4 ?_
  clear Y HTH
  have Y : Jr w (w6.drew.setCells (w.heap.size + 1) 0 (R.map bv).toArray.toList) (w.heap.size + 1 + 1) w5.heap.size v m (o.getD []).reverse R := Y4
  clear Y4
  (refine RegC.take (i := 5) (v := ?_) rfl (by kernel_rfl) (by kernel_rfl) (by kernel_rfl) (by kernel_rfl) (by kernel_rfl) (fun _ _ _ h => h) (Or.inl ⟨by rfl, ?_⟩) Y ?_; rotate_left 1; focus (intro W hW; go_simp; try (first | with_reducible rfl | (rw [if_pos (by omega)]; done) | (rw [if_pos (by omega), if_neg (by omega)]; done) | (rw [if_neg (by omega)]; done))))
  refine RegC.done (by kernel_rfl) ?_
  go_simp
  go_wp2
  refine bodyPost_ret (v := .tuple #[v, dv R, .bool o.isSome]) ?_ rfl ⟨v, m, R, HRL.out, HR1.out, rfl, Y.own.more (by omega), Y.z⟩
  simp [results, Tryd.results49, asAddr]
  rw [HX.out]
  rfl
end Mk
end Go.Proofs.YthpkeaafgabjiaaDoor

/- The package merkle: Clash. Conditions: the slices read as lists of digests, the tables are laid. -/
namespace Go.Proofs.YthpkeaafgabjiaaDoor
open Go.RowKit
namespace Mk
open Wire (bv sv Lies own_more)
open Hash (Arr bcj)

set_option maxRecDepth 100000 in
theorem bytesEqual_any (x y : List UInt8) (n c m k : Nat) (A B : Option Addr) (w : World) (hx : Lies w w.heap.size 1 A n c (x.map bv)) (hy : Lies w w.heap.size 1 B m k (y.map bv)) :
    Calls Tryd.prog 50 #[.slice A n c, .slice B m k] w (GivesT (x == y) w) := by
  have h1 := Hash.convL hx
  have h2 := Hash.convL hy
  have HZ := Lib.hid (Below.refl w.heap.size w)
  clear hx hy
  go_enter Tryd.func50, Tryd.ntmps50
  go_wp2
  go_ret
  exact ⟨rfl, HZ.out⟩

/-- The digests that came in, and the roots of both proofs. -/
structure Kd (w w6 W : World) (a b : List UInt8) (gx gy : Nat) (R1 R2 : List UInt8) : Prop where
  v : Vb w W a b
  x : Dg W gx R1
  y : Dg W gy R2
  far : Below w6.heap.size w6 W
theorem Kd.on {w w6 W W' : World} {a b R1 R2 : List UInt8} {gx gy : Nat} (h : Kd w w6 W a b gx gy R1 R2) (hb : Below W.heap.size W W') : Kd w w6 W' a b gx gy R1 R2 := ⟨h.v.on hb, h.x.on hb, h.y.on hb, bcj h.far hb⟩
/-- The digests that came in, and the root of the first proof. -/
structure Ke (w W : World) (a b : List UInt8) (gx : Nat) (R1 : List UInt8) : Prop where
  v : Vb w W a b
  x : Dg W gx R1
theorem Ke.on {w W W' : World} {a b R1 : List UInt8} {gx : Nat} (h : Ke w W a b gx R1) (hb : Below W.heap.size W W') : Ke w W' a b gx R1 := ⟨h.v.on hb, h.x.on hb⟩
theorem lies_nil1 (w : World) (B : Nat) : Lies w B 1 none 0 0 (([] : List UInt8).map bv) := ⟨by simp, Nat.le_refl _, Nat.zero_le _, fun h => absurd h (Nat.lt_irrefl 0), fun h => absurd h (Nat.lt_irrefl 0)⟩
theorem givesC3_none {w W : World} (hz : Below w.heap.size w W) : GivesC3 none w (.returned (.tuple #[.slice none 0 0, .slice none 0 0, .bool false])) W :=
  ⟨none, 0, 0, none, 0, 0, rfl, hz, lies_nil1 _ _, lies_nil1 _ _⟩

set_option maxRecDepth 100000 in
set_option maxHeartbeats 8000000 in
theorem clash_any (n i : Int) (a b : List UInt8) (q c q2 c2 : Nat) (A B : Option Addr) (p p2 : List (List UInt8)) (w : World) (ha : a.length = 16) (hb : b.length = 16) (hn : n ≤ 9223372036854775807) (hq : q ≤ 1000000) (hq2 : q2 ≤ 1000000) (hl : LiesD w w.heap.size A q c p) (hl2 : LiesD w w.heap.size B q2 c2 p2) (ht : TP w) :
    Calls Tryd.prog 22 #[.int .i64 n, .int .i64 i, dv a, dv b, .slice A q c, .slice B q2 c2] w (GivesC3 (clashOf (inpI n i a p) (inpI n i b p2)) w) := by
  have Y := vb_new w ha hb 29 29
  have HPA : Hid (∀ W, Below w.heap.size w W → Calls Tryd.prog 49 #[.int .i64 n, .int .i64 i, .agg (a.map bv).toArray, .slice A q c] W (GivesJ (inpI n i a p) W)) := Lib.hid (fun W h => inputs_any n i a ha q c A p W hn ((hl.below h).more h.size) (ht.on h))
  have HPB : Hid (∀ W, Below w.heap.size w W → Calls Tryd.prog 49 #[.int .i64 n, .int .i64 i, .agg (b.map bv).toArray, .slice B q2 c2] W (GivesJ (inpI n i b p2) W)) := Lib.hid (fun W h => inputs_any n i b hb q2 c2 B p2 W hn ((hl2.below h).more h.size) (ht.on h))
  have I1 : Inp (inpI n i a p) := inpI_inp hl.ok ha (by rw [hl.len]; exact hq)
  have I2 : Inp (inpI n i b p2) := inpI_inp hl2.ok hb (by rw [hl2.len]; exact hq2)
  have hlen := fun L M => inpI_len (n := n) (i := i) (a := a) (b := b) (p := p) (p2 := p2) (L := L) (M := M)
  have HA := Lib.hid ha
  have HB := Lib.hid hb
  generalize inpI n i a p = o at *
  generalize inpI n i b p2 = o2 at *
  clear ha hb hn hq hq2 hl hl2 ht
  unfold dv
  cases o with
  | none =>
    clear I1 I2 hlen
    have HR : clashOf none o2 = none := rfl
    rw [HR]
    go_enter Tryd.func22, Tryd.ntmps22
    go_wp2_with (first
      | (refine load_d 25 rfl rfl (.tmp 8) rfl w.heap.size 0 rfl a HA.out Y.a.range ?_; unfold dv)
      | (go_at_call 49; (with_reducible refine (HPA.out _ Y.z).mono ?_); rintro e w5 ⟨v5, m5, R1, hR1, -, rfl, hown, hb⟩; unfold dv; replace Y := Y.on hb; have HR1L := Lib.hid hR1; clear hb hown hR1)
      | (refine store_d (.tmp 16) (.tmp 29) rfl rfl w5.heap.size 0 rfl R1 rfl HR1L.out (dg_zero w5 _).there ?_; refine Hash.gen_world (Pq := fun W => Ke w W a b w5.heap.size R1) (G := fun W => wpList _ _ _ _ _ W) ⟨Y.on (below_new w5 R1 _), (dg_zero w5 _).put HR1L.out⟩ ?_; clear Y; intro w6 Y)
      | (refine load_d 34 rfl rfl (.tmp 9) rfl (w.heap.size + 1) 0 rfl b HB.out Y.v.b.range ?_; unfold dv)
      | (go_at_call 49; (with_reducible refine (HPB.out _ Y.v.z).mono ?_); rintro e w7 ⟨v7, m7, R2, hR2, -, rfl, hown, hb⟩; unfold dv; replace Y := Y.on hb; have HR2L := Lib.hid hR2; clear hb hown hR2)
      | (refine store_d (.tmp 19) (.tmp 38) rfl rfl w7.heap.size 0 rfl R2 rfl HR2L.out (dg_zero w7 _).there ?_; refine Hash.gen_world (Pq := fun W => Ke w W a b w5.heap.size R1) (G := fun W => wpList _ _ _ _ _ W) (Y.on (below_new w7 R2 _)) ?_; clear Y; intro w8 Y))
    go_ret3
    exact givesC3_none Y.v.z
  | some K1 =>
    obtain ⟨t, l, rfl⟩ := I1.ne _ rfl
    cases o2 with
    | none =>
      clear I1 I2 hlen
      have HR : clashOf (some (t :: l)) none = none := rfl
      rw [HR]
      go_enter Tryd.func22, Tryd.ntmps22
      go_wp2_with (first
        | (refine load_d 25 rfl rfl (.tmp 8) rfl w.heap.size 0 rfl a HA.out Y.a.range ?_; unfold dv)
        | (go_at_call 49; (with_reducible refine (HPA.out _ Y.z).mono ?_); rintro e w5 ⟨v5, m5, R1, hR1, -, rfl, hown, hb⟩; unfold dv; replace Y := Y.on hb; have HR1L := Lib.hid hR1; clear hb hown hR1)
        | (refine store_d (.tmp 16) (.tmp 29) rfl rfl w5.heap.size 0 rfl R1 rfl HR1L.out (dg_zero w5 _).there ?_; refine Hash.gen_world (Pq := fun W => Ke w W a b w5.heap.size R1) (G := fun W => wpList _ _ _ _ _ W) ⟨Y.on (below_new w5 R1 _), (dg_zero w5 _).put HR1L.out⟩ ?_; clear Y; intro w6 Y)
        | (refine load_d 34 rfl rfl (.tmp 9) rfl (w.heap.size + 1) 0 rfl b HB.out Y.v.b.range ?_; unfold dv)
        | (go_at_call 49; (with_reducible refine (HPB.out _ Y.v.z).mono ?_); rintro e w7 ⟨v7, m7, R2, hR2, -, rfl, hown, hb⟩; unfold dv; replace Y := Y.on hb; have HR2L := Lib.hid hR2; clear hb hown hR2)
        | (refine store_d (.tmp 19) (.tmp 38) rfl rfl w7.heap.size 0 rfl R2 rfl HR2L.out (dg_zero w7 _).there ?_; refine Hash.gen_world (Pq := fun W => Ke w W a b w5.heap.size R1) (G := fun W => wpList _ _ _ _ _ W) (Y.on (below_new w7 R2 _)) ?_; clear Y; intro w8 Y))
      go_ret3
      exact givesC3_none Y.v.z
    | some K2 =>
      obtain ⟨s, m, rfl⟩ := I2.ne _ rfl
      have hd1 := sh_length t
      have hd2 := sh_length s
      have HD1 := Lib.hid hd1
      have HD2 := Lib.hid hd2
      have HR : Hid (clashOf (some (t :: l)) (some (s :: m)) = if HH.sh t = HH.sh s then firstDiff (t :: l) (s :: m) else none) := Lib.hid rfl
      generalize clashOf (some (t :: l)) (some (s :: m)) = R at *
      have HEQ := Lib.hid (fun W => neq_d (HH.sh t) (HH.sh s) hd1 hd2 W)
      obtain ⟨N, hN⟩ : ∃ N, l.length = N := ⟨_, rfl⟩
      have h1 : (t :: l).length = N + 1 := by rw [List.length_cons, hN]
      have h2 : (s :: m).length = N + 1 := by rw [← hlen _ _ rfl rfl]; exact h1
      have hNb : N ≤ 1000000 := by have := I1.len _ rfl; omega
      have HT1 : Hid ((t :: l).reverse[N]? = some t) := Lib.hid (by
        rw [List.reverse_cons, List.getElem?_append_right (by simp; omega)]; simp [hN])
      have HT2 : Hid ((s :: m).reverse[N]? = some s) := Lib.hid (by
        have : m.length = N := by simpa using h2
        rw [List.reverse_cons, List.getElem?_append_right (by simp; omega)]; simp [this])
      have HM1 : Hid ((t :: l).reverse.length = N + 1) := Lib.hid (by rw [List.length_reverse]; exact h1)
      have HM2 : Hid ((s :: m).reverse.length = N + 1) := Lib.hid (by rw [List.length_reverse]; exact h2)
      have HV1 : Hid (∀ k, k ≤ N → ∃ x, x ∈ t :: l ∧ (t :: l).reverse[k]? = some x ∧ (t :: l).drop (N - k) = x :: (t :: l).drop (N + 1 - k)) := Lib.hid (fun k hk => rev_at h1 hk)
      have HV2 : Hid (∀ k, k ≤ N → ∃ x, x ∈ s :: m ∧ (s :: m).reverse[k]? = some x ∧ (s :: m).drop (N - k) = x :: (s :: m).drop (N + 1 - k)) := Lib.hid (fun k hk => rev_at h2 hk)
      have HZ : Hid (firstDiff ((t :: l).drop (N + 1 - 0)) ((s :: m).drop (N + 1 - 0)) = none) := Lib.hid (by
        rw [List.drop_eq_nil_of_le (by rw [h1]; omega)]; rfl)
      have HZ0 : Hid (firstDiff ((t :: l).drop 0) ((s :: m).drop 0) = firstDiff (t :: l) (s :: m)) := Lib.hid rfl
      have HN := Lib.hid hNb
      have hJ1 : (Option.getD (some (t :: l)) []).reverse = (t :: l).reverse := rfl
      have hJ2 : (Option.getD (some (s :: m)) []).reverse = (s :: m).reverse := rfl
      generalize (t :: l).reverse = J1 at HT1 HM1 HV1 hJ1
      generalize (s :: m).reverse = J2 at HT2 HM2 HV2 hJ2
      have HJ1 := Lib.hid hJ1
      have HJ2 := Lib.hid hJ2
      clear I1 I2 hlen hd1 hd2 hN h1 h2 hNb hJ1 hJ2
      by_cases hD : HH.sh t = HH.sh s
      · have HR2 : Hid (R = firstDiff (t :: l) (s :: m)) := Lib.hid (by rw [HR.out, if_pos hD])
        have eq1 : ∀ W, (binOp .neq 29 (.agg ((HH.sh t).map bv).toArray) (.agg ((HH.sh s).map bv).toArray)).run Tryd.prog W = .ok (.bool false) W := fun W => by rw [HEQ.out W]; simp [hD]
        have HE1 := Lib.hid eq1
        clear hD HR HEQ eq1
        go_enter Tryd.func22, Tryd.ntmps22
        go_wp2_with (first
          | (refine load_d 25 rfl rfl (.tmp 8) rfl w.heap.size 0 rfl a HA.out Y.a.range ?_; unfold dv)
          | (go_at_call 49; (with_reducible refine (HPA.out _ Y.z).mono ?_); rintro e w5 ⟨v5, m5, R1, -, hR, rfl, hown, hb⟩; have hR5 := hR t l rfl; subst hR5; unfold dv; rw [HJ1.out] at hown; have HO1 := Lib.hid (hown.more Y.z.size); replace Y := Y.on hb; clear hb hown hR)
          | (refine store_d (.tmp 16) (.tmp 29) rfl rfl w5.heap.size 0 rfl (HH.sh t) rfl HD1.out (dg_zero w5 _).there ?_; replace HO1 := Lib.hid (HO1.out.on (below_new w5 (HH.sh t) 29)); refine Hash.gen_world (Pq := fun W => Ke w W a b w5.heap.size (HH.sh t) ∧ OwnT W w.heap.size v5 m5 J1) (G := fun W => wpList _ _ _ _ _ W) ⟨⟨Y.on (below_new w5 (HH.sh t) _), (dg_zero w5 _).put HD1.out⟩, HO1.out⟩ ?_; clear Y HO1; intro w6 Y6; obtain ⟨Y, ho6⟩ := Y6; have HO1 := Lib.hid ho6; clear ho6)
          | (refine load_d 34 rfl rfl (.tmp 9) rfl (w.heap.size + 1) 0 rfl b HB.out Y.v.b.range ?_; unfold dv)
          | (go_at_call 49; (with_reducible refine (HPB.out _ Y.v.z).mono ?_); rintro e w7 ⟨v7, m7, R2, -, hR, rfl, hown, hb⟩; have hR7 := hR s m rfl; subst hR7; unfold dv; rw [HJ2.out] at hown; have HO2 := Lib.hid (hown.more Y.v.z.size); replace HO1 := Lib.hid (HO1.out.on hb); replace Y := Y.on hb; clear hb hown hR)
          | (refine store_d (.tmp 19) (.tmp 38) rfl rfl w7.heap.size 0 rfl (HH.sh s) rfl HD2.out (dg_zero w7 _).there ?_; refine Hash.gen_world (Pq := fun W => Kd w W W a b w5.heap.size w7.heap.size (HH.sh t) (HH.sh s) ∧ OwnT W w.heap.size v5 m5 J1 ∧ OwnT W w.heap.size v7 m7 J2) (G := fun W => wpList _ _ _ _ _ W) ⟨⟨Y.v.on (below_new w7 (HH.sh s) _), Y.x.on (below_new w7 (HH.sh s) _), (dg_zero w7 _).put HD2.out, Below.refl _ _⟩, HO1.out.on (below_new w7 (HH.sh s) _), HO2.out.on (below_new w7 (HH.sh s) _)⟩ ?_; clear Y HO1 HO2; intro w8 Y8; obtain ⟨Y, ho1, ho2⟩ := Y8; obtain rfl : m5 = N + 1 := (by rw [← ho1.len]; exact HM1.out); obtain rfl : m7 = N + 1 := (by rw [← ho2.len]; exact HM2.out); obtain ⟨g1, k1, -, -, rfl, -⟩ := ho1.at_ HT1.out; obtain ⟨g2, k2, -, -, rfl, -⟩ := ho2.at_ HT2.out; have HO1 := Lib.hid ho1; have HO2 := Lib.hid ho2; have eq1 := HE1.out; clear ho1 ho2)
          | (refine QTail.loadG (by rfl) 29 (.tmp 16) rfl w5.heap.size 0 rfl ((HH.sh t).map bv) _ Y.x.range und_d rfl (info_d HD1.out) ?_)
          | (refine QTail.loadG (by rfl) 29 (.tmp 19) rfl w7.heap.size 0 rfl ((HH.sh s).map bv) _ Y.y.range und_d rfl (info_d HD2.out) ?_))
        clear HE1 eq1
        generalize w5.heap.size = gx at *
        generalize w7.heap.size = gy at *
        generalize HH.sh t = D1 at *
        generalize HH.sh s = D2 at *
        generalize (t :: l) = K1 at *
        generalize (s :: m) = K2 at *
        have y5 : ((N + 1 : Nat) : Int) - 1 = (N : Int) := by omega
        go_wp2
        go_loopw [21] (fun kv wr => ∃ (mm : Nat), Hid (mm ≤ N + 1) ∧ kv = .int .i64 ((mm : Int) - 1) ∧ Hid (R = firstDiff (K1.drop (N + 1 - mm)) (K2.drop (N + 1 - mm))) ∧ Kd w w8 wr a b gx gy D1 D2) (fun kv _ => (intOf kv + 1).toNat)
        case atStart => exact ⟨N + 1, Lib.hid (Nat.le_refl _), (by rw [y5]; have := HN.out; congr 1; simp only [wrap64]; omega), Lib.hid (by rw [HR2.out, Nat.sub_self, HZ0.out]), Y⟩
        case round =>
          clear Y
          obtain ⟨mm, hmm, rfl, HT, Y⟩ := hrel
          cases mm with
          | zero =>
            obtain rfl : R = none := by rw [HT.out]; exact HZ.out
            have e0 : (((0 : Nat) : Int) - 1) = -1 := rfl
            rw [e0]
            go_wp2
            go_ret3
            exact givesC3_none Y.v.z
          | succ k =>
            have hk : k ≤ N := Nat.le_of_succ_le_succ hmm.out
            have e0 : (((k + 1 : Nat) : Int) - 1) = (k : Int) := by omega
            rw [e0]
            obtain ⟨x, hxm, hxa, hxd⟩ := HV1.out k hk
            obtain ⟨y, hym, hya, hyd⟩ := HV2.out k hk
            obtain ⟨ga, ca, hca, hg1, hla, hma⟩ := HO1.out.look hxa
            obtain ⟨gb, cb, hcb, hg2, hlb, hmb⟩ := HO2.out.look hya
            have HC1 : Hid (∀ W, Kd w w8 W a b gx gy D1 D2 → W.cell? ⟨g1, k, none⟩ = some (.slice (some ⟨ga, 0, none⟩) x.length ca)) := Lib.hid (fun W h => (h.far.cell (p := ⟨g1, k, none⟩) hg1).trans hca)
            have HC2 : Hid (∀ W, Kd w w8 W a b gx gy D1 D2 → W.cell? ⟨g2, k, none⟩ = some (.slice (some ⟨gb, 0, none⟩) y.length cb)) := Lib.hid (fun W h => (h.far.cell (p := ⟨g2, k, none⟩) hg2).trans hcb)
            have HBE : Hid (∀ W, Kd w w8 W a b gx gy D1 D2 → Calls Tryd.prog 50 #[.slice (some ⟨ga, 0, none⟩) x.length ca, .slice (some ⟨gb, 0, none⟩) y.length cb] W (GivesT (x == y) W)) := Lib.hid (fun W h => bytesEqual_any x y _ _ _ _ _ _ W ((hla.below h.far).more h.far.size) ((hlb.below h.far).more h.far.size))
            have HT3 : Hid (R = firstDiff (x :: K1.drop (N + 1 - k)) (y :: K2.drop (N + 1 - k))) := Lib.hid (by rw [HT.out, show N + 1 - (k + 1) = N - k by omega, hxd, hyd])
            have HLA : Hid (∀ W, Kd w w8 W a b gx gy D1 D2 → Lies W W.heap.size 1 (some ⟨ga, 0, none⟩) x.length ca (x.map bv)) := Lib.hid (fun W h => (hla.below h.far).more h.far.size)
            have HLB : Hid (∀ W, Kd w w8 W a b gx gy D1 D2 → Lies W W.heap.size 1 (some ⟨gb, 0, none⟩) y.length cb (y.map bv)) := Lib.hid (fun W h => (hlb.below h.far).more h.far.size)
            have z0 : (0 : Int) ≤ (k : Int) := by omega
            have z1 : (k : Int) < ((N + 1 : Nat) : Int) := by omega
            have z2 : k < N + 1 := by omega
            have z5 : IntKind.i64.wrap ((k : Int) - 1) = (k : Int) - 1 := IntWalk.i64_in _ (by have := HN.out; omega)
            have z6 : wrap64 ((k : Int) - 1) = (k : Int) - 1 := by have := HN.out; simp only [wrap64]; omega
            clear hxm hxa hxd hym hya hyd hca hcb hla hlb hma hmb HT hk hmm
            go_wp2
            refine QTail.whole (fun W => Kd w w8 W a b gx gy D1 D2) (by kernel_rfl) (by kernel_rfl) (Y.on (Hash.belowD _)) ?_
            (refine wpQuiet_step (fun K hK => ?_); go_simp; (first | refine hK _ ?_ | refine ⟨_, fun _ _ => rfl, hK _ ?_⟩); clear hK K)
            (refine wpQuiet_step (fun K hK => ?_); go_simp; (first | refine hK _ ?_ | refine ⟨_, fun _ _ => rfl, hK _ ?_⟩); clear hK K)
            (refine wpQuiet_step (fun K hK => ?_); go_simp; refine ⟨.pointer (some ⟨g1, k, none⟩), fun W hW => ?_, hK _ ?_⟩; (first | (rw [if_pos (by omega)]; exact ⟨rfl, rfl⟩) | (rw [if_pos (by omega)]; rfl) | exact ⟨rfl, rfl⟩ | rfl); clear hK K)
            (refine wpQuiet_step (fun K hK => ?_); go_simp; refine ⟨(.slice (some ⟨ga, 0, none⟩) x.length ca), fun W hW => ?_, hK _ ?_⟩; (first | (rw [HC1.out W hW]; exact ⟨rfl, rfl⟩) | (rw [HC1.out W hW]; rfl)); clear hK K)
            (refine wpQuiet_step (fun K hK => ?_); go_simp; (first | refine hK _ ?_ | refine ⟨_, fun _ _ => rfl, hK _ ?_⟩); clear hK K)
            (refine wpQuiet_step (fun K hK => ?_); go_simp; (first | refine hK _ ?_ | refine ⟨_, fun _ _ => rfl, hK _ ?_⟩); clear hK K)
            (refine wpQuiet_step (fun K hK => ?_); go_simp; refine ⟨.pointer (some ⟨g2, k, none⟩), fun W hW => ?_, hK _ ?_⟩; (first | (rw [if_pos (by omega)]; exact ⟨rfl, rfl⟩) | (rw [if_pos (by omega)]; rfl) | exact ⟨rfl, rfl⟩ | rfl); clear hK K)
            (refine wpQuiet_step (fun K hK => ?_); go_simp; refine ⟨(.slice (some ⟨gb, 0, none⟩) y.length cb), fun W hW => ?_, hK _ ?_⟩; (first | (rw [HC2.out W hW]; exact ⟨rfl, rfl⟩) | (rw [HC2.out W hW]; rfl)); clear hK K)
            (refine wpQuiet_step (fun K hK => ?_); go_simp; refine ⟨_, fun W hW => (HBE.out W hW).mono fun e w' ⟨he, hb⟩ => ⟨he, hW.on hb⟩, hK _ ?_⟩; clear hK K)
            (refine wpQuiet_step (fun K hK => ?_); go_simp; (first | refine hK _ ?_ | refine ⟨_, fun _ _ => rfl, hK _ ?_⟩); clear hK K)
            refine wpQuiet_nil ?_
            clear Y
            intro w9 Y
            by_cases hxy : x = y
            · have e1 : (x == y) = true := by simp [hxy]
              rw [e1]
              have HT4 : Hid (R = firstDiff (K1.drop (N + 1 - k)) (K2.drop (N + 1 - k))) := Lib.hid (by rw [HT3.out, firstDiff, if_pos hxy])
              clear hxy e1 HT3
              go_wp2
              go_roundw
              case rel => exact ⟨k, Lib.hid (Nat.le_of_lt z2), rfl, HT4, Y⟩
              case measure => simp [intOf]
            · have e1 : (x == y) = false := by simpa using hxy
              rw [e1]
              have HT4 : Hid (R = some (x, y)) := Lib.hid (by rw [HT3.out, firstDiff, if_neg hxy])
              clear hxy e1 HT3
              go_wp2
              refine QTail.whole (fun W => Kd w w8 W a b gx gy D1 D2) (by kernel_rfl) (by kernel_rfl) (Y.on (Hash.belowD _)) ?_
              (refine wpQuiet_step (fun K hK => ?_); go_simp; (first | refine hK _ ?_ | refine ⟨_, fun _ _ => rfl, hK _ ?_⟩); clear hK K)
              (refine wpQuiet_step (fun K hK => ?_); go_simp; (first | refine hK _ ?_ | refine ⟨_, fun _ _ => rfl, hK _ ?_⟩); clear hK K)
              (refine wpQuiet_step (fun K hK => ?_); go_simp; refine ⟨.pointer (some ⟨g1, k, none⟩), fun W hW => ?_, hK _ ?_⟩; (first | (rw [if_pos (by omega)]; exact ⟨rfl, rfl⟩) | (rw [if_pos (by omega)]; rfl) | exact ⟨rfl, rfl⟩ | rfl); clear hK K)
              (refine wpQuiet_step (fun K hK => ?_); go_simp; refine ⟨(.slice (some ⟨ga, 0, none⟩) x.length ca), fun W hW => ?_, hK _ ?_⟩; (first | (rw [HC1.out W hW]; exact ⟨rfl, rfl⟩) | (rw [HC1.out W hW]; rfl)); clear hK K)
              (refine wpQuiet_step (fun K hK => ?_); go_simp; (first | refine hK _ ?_ | refine ⟨_, fun _ _ => rfl, hK _ ?_⟩); clear hK K)
              (refine wpQuiet_step (fun K hK => ?_); go_simp; (first | refine hK _ ?_ | refine ⟨_, fun _ _ => rfl, hK _ ?_⟩); clear hK K)
              (refine wpQuiet_step (fun K hK => ?_); go_simp; refine ⟨.pointer (some ⟨g2, k, none⟩), fun W hW => ?_, hK _ ?_⟩; (first | (rw [if_pos (by omega)]; exact ⟨rfl, rfl⟩) | (rw [if_pos (by omega)]; rfl) | exact ⟨rfl, rfl⟩ | rfl); clear hK K)
              (refine wpQuiet_step (fun K hK => ?_); go_simp; refine ⟨(.slice (some ⟨gb, 0, none⟩) y.length cb), fun W hW => ?_, hK _ ?_⟩; (first | (rw [HC2.out W hW]; exact ⟨rfl, rfl⟩) | (rw [HC2.out W hW]; rfl)); clear hK K)
              (refine wpQuiet_step (fun K hK => ?_); go_simp; (first | refine hK _ ?_ | refine ⟨_, fun _ _ => rfl, hK _ ?_⟩); clear hK K)
              (refine wpQuiet_step (fun K hK => ?_); go_simp; (first | refine hK _ ?_ | refine ⟨_, fun _ _ => rfl, hK _ ?_⟩); clear hK K)
              (refine wpQuiet_step (fun K hK => ?_); go_simp; (first | refine hK _ ?_ | refine ⟨_, fun _ _ => rfl, hK _ ?_⟩); clear hK K)
              refine wpQuiet_nil ?_
              clear Y
              intro w10 Y
              obtain rfl := HT4.out
              go_wp2
              go_ret3
              exact ⟨_, _, _, _, _, _, rfl, Y.v.z, HLA.out _ Y, HLB.out _ Y⟩
      · have HR2 : R = none := by rw [HR.out, if_neg hD]
        subst HR2
        have eq1 : ∀ W, (binOp .neq 29 (.agg ((HH.sh t).map bv).toArray) (.agg ((HH.sh s).map bv).toArray)).run Tryd.prog W = .ok (.bool true) W := fun W => by rw [HEQ.out W]; simpa using hD
        have HE1 := Lib.hid eq1
        clear hD HR HEQ eq1
        go_enter Tryd.func22, Tryd.ntmps22
        go_wp2_with (first
          | (refine load_d 25 rfl rfl (.tmp 8) rfl w.heap.size 0 rfl a HA.out Y.a.range ?_; unfold dv)
          | (go_at_call 49; (with_reducible refine (HPA.out _ Y.z).mono ?_); rintro e w5 ⟨v5, m5, R1, -, hR, rfl, hown, hb⟩; have hR5 := hR t l rfl; subst hR5; unfold dv; rw [HJ1.out] at hown; have HO1 := Lib.hid (hown.more Y.z.size); replace Y := Y.on hb; clear hb hown hR)
          | (refine store_d (.tmp 16) (.tmp 29) rfl rfl w5.heap.size 0 rfl (HH.sh t) rfl HD1.out (dg_zero w5 _).there ?_; replace HO1 := Lib.hid (HO1.out.on (below_new w5 (HH.sh t) 29)); refine Hash.gen_world (Pq := fun W => Ke w W a b w5.heap.size (HH.sh t) ∧ OwnT W w.heap.size v5 m5 J1) (G := fun W => wpList _ _ _ _ _ W) ⟨⟨Y.on (below_new w5 (HH.sh t) _), (dg_zero w5 _).put HD1.out⟩, HO1.out⟩ ?_; clear Y HO1; intro w6 Y6; obtain ⟨Y, ho6⟩ := Y6; have HO1 := Lib.hid ho6; clear ho6)
          | (refine load_d 34 rfl rfl (.tmp 9) rfl (w.heap.size + 1) 0 rfl b HB.out Y.v.b.range ?_; unfold dv)
          | (go_at_call 49; (with_reducible refine (HPB.out _ Y.v.z).mono ?_); rintro e w7 ⟨v7, m7, R2, -, hR, rfl, hown, hb⟩; have hR7 := hR s m rfl; subst hR7; unfold dv; rw [HJ2.out] at hown; have HO2 := Lib.hid (hown.more Y.v.z.size); replace HO1 := Lib.hid (HO1.out.on hb); replace Y := Y.on hb; clear hb hown hR)
          | (refine store_d (.tmp 19) (.tmp 38) rfl rfl w7.heap.size 0 rfl (HH.sh s) rfl HD2.out (dg_zero w7 _).there ?_; refine Hash.gen_world (Pq := fun W => Kd w W W a b w5.heap.size w7.heap.size (HH.sh t) (HH.sh s) ∧ OwnT W w.heap.size v5 m5 J1 ∧ OwnT W w.heap.size v7 m7 J2) (G := fun W => wpList _ _ _ _ _ W) ⟨⟨Y.v.on (below_new w7 (HH.sh s) _), Y.x.on (below_new w7 (HH.sh s) _), (dg_zero w7 _).put HD2.out, Below.refl _ _⟩, HO1.out.on (below_new w7 (HH.sh s) _), HO2.out.on (below_new w7 (HH.sh s) _)⟩ ?_; clear Y HO1 HO2; intro w8 Y8; obtain ⟨Y, ho1, ho2⟩ := Y8; obtain rfl : m5 = N + 1 := (by rw [← ho1.len]; exact HM1.out); obtain rfl : m7 = N + 1 := (by rw [← ho2.len]; exact HM2.out); obtain ⟨g1, k1, -, -, rfl, -⟩ := ho1.at_ HT1.out; obtain ⟨g2, k2, -, -, rfl, -⟩ := ho2.at_ HT2.out; have HO1 := Lib.hid ho1; have HO2 := Lib.hid ho2; have eq1 := HE1.out; clear ho1 ho2)
          | (refine QTail.loadG (by rfl) 29 (.tmp 16) rfl w5.heap.size 0 rfl ((HH.sh t).map bv) _ Y.x.range und_d rfl (info_d HD1.out) ?_)
          | (refine QTail.loadG (by rfl) 29 (.tmp 19) rfl w7.heap.size 0 rfl ((HH.sh s).map bv) _ Y.y.range und_d rfl (info_d HD2.out) ?_))
        go_ret3
        exact givesC3_none Y.v.z
end Mk
end Go.Proofs.YthpkeaafgabjiaaDoor

