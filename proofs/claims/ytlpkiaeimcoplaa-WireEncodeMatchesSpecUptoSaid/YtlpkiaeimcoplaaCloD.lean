/- The closure of wire.list that decodes one digest. Condition: what it has captured reads as said; sixteen bytes are there. -/
import Derived.Test.YtlpkiaeimcoplaaDig
import Derived.Deep.RegionHeld3
import Derived.Deep.MidRow
namespace Go.Proofs.Ytlpkiaeimcoplaa
open Go.RowKit
namespace Wire

/-- Two results, a digest and no error; the place moves on; only the place's block has turned. -/
def CloD (w : World) (p2 : Nat) (v : Value) (to : Nat) (e : Ending) (w' : World) : Prop :=
  e = .returned (.tuple #[v, .int .i64 0]) ∧ w.grownBy w' (some p2) ∧ w'.cell? ⟨p2, 0, none⟩ = some (.int .i64 (to : Int)) ∧ w'.frozen? ⟨p2, 0, none⟩ = false

/-- A digest lies in a block of its own; the block of the result is there. -/
structure After (w w3 : World) (D : Nat) (cs : List Value) : Prop where
  below : Below w.heap.size w w3
  apart : w.heap.size < D
  range : w3.rangeAt D 0 cs
  there : w3.there w.heap.size 0 16

theorem zero_there (w : World) (g : Nat) (t : TypeId) (h : w.heap[g]? = some (.cells zero16.toArray t (0, 0))) : w.there g 0 16 := by
  intro j hj
  refine ⟨?_, frozen_of_row _ _ _ _ _ h⟩
  rw [cell_of_row _ _ _ _ _ (0, 0) h, Array.getElem?_eq_getElem (by simp; omega)]
  rfl
theorem there_of {w : World} {b o n : Nat} (h : w.there b o 16) (e : n = 16) : w.there b o n := e ▸ h
theorem below_setCells (B b : Nat) (w0 : World) (hb : B ≤ b) : ∀ (vs : List Value) (o : Nat) (w : World), Below B w0 w → Below B w0 (w.setCells b o vs)
  | [], _, _, h => h
  | v :: r, o, _, h => below_setCells B b w0 hb r (o + 1) _ (h.setCell (p := ⟨b, o, none⟩) hb v)

theorem after_late (w W w2 : World) (t : TypeId) (cs : List Value) (hcs : cs.length = 16) (hW : Below w.heap.size w W) (h0 : W.heap[w.heap.size]? = some (.cells zero16.toArray t (0, 0))) (hb : Below W.heap.size W w2) :
    After w ((w2.alloc (.cells zero16.toArray t)).setCells w2.heap.size 0 cs) w2.heap.size cs := by
  have hlt : w.heap.size < W.heap.size := (Array.getElem?_eq_some_iff.1 h0).1
  have hs := hb.size
  have ht : (w2.alloc (.cells zero16.toArray t)).there w2.heap.size 0 cs.length := by rw [hcs]; exact zero_there _ _ t (heap_alloc_new w2 _)
  have h1 : w2.heap[w.heap.size]? = some (.cells zero16.toArray t (0, 0)) := (hb.block _ hlt).trans h0
  have h2 : (w2.alloc (.cells zero16.toArray t)).heap[w.heap.size]? = some (.cells zero16.toArray t (0, 0)) := (Below.heap_alloc w2 _ _ (by omega)).trans h1
  refine ⟨?_, by omega, World.rangeAt_setCells_same _ _ _ _ ht, World.there_setCells (zero_there _ _ t h2) _ _ _⟩
  exact below_setCells _ _ _ (by omega) _ _ _ ((hW.trans (hb.mono (by omega))).alloc (by omega) _)
theorem after_early (w W w2 : World) (t : TypeId) (cs : List Value) (hcs : cs.length = 16) (hW : Below w.heap.size w W) (h0 : W.heap[w.heap.size]? = some (.cells zero16.toArray t (0, 0)))
    (h1 : W.heap[w.heap.size + 1]? = some (.cells zero16.toArray t (0, 0))) (hb : Below W.heap.size W w2) : After w (w2.setCells (w.heap.size + 1) 0 cs) (w.heap.size + 1) cs := by
  have hlt : w.heap.size + 1 < W.heap.size := (Array.getElem?_eq_some_iff.1 h1).1
  have ht : w2.there (w.heap.size + 1) 0 cs.length := by rw [hcs]; exact zero_there _ _ t ((hb.block _ hlt).trans h1)
  refine ⟨?_, by omega, World.rangeAt_setCells_same _ _ _ _ ht, World.there_setCells (zero_there _ _ t ((hb.block _ (by omega)).trans h0)) _ _ _⟩
  exact below_setCells _ _ _ (by omega) _ _ _ (hW.trans (hb.mono (by omega)))

section
variable {w w3 : World} {D : Nat} {cs : List Value}
theorem After.moved (h : After w w3 D cs) {p2 : Nat} (hp : p2 < w.heap.size) (u : Value) : (w3.setCell ⟨p2, 0, none⟩ u).rangeAt D 0 cs ∧ (w3.setCell ⟨p2, 0, none⟩ u).there w.heap.size 0 16 := by
  have hd := h.apart
  have hc : ∀ g o, g ≠ p2 → (w3.setCell ⟨p2, 0, none⟩ u).cell? ⟨g, o, none⟩ = w3.cell? ⟨g, o, none⟩ := fun g o hg => World.cell?_of_block (w := w3) (Below.heap_setCell w3 ⟨p2, 0, none⟩ u g hg)
  refine ⟨fun j v hv => ?_, fun j hj => ?_⟩
  · rw [hc _ _ (by omega)]; exact h.range j v hv
  · rw [hc _ _ (by omega), World.frozen?_setCell]; exact h.there j hj
theorem After.done (h : After w w3 D cs) (_hcs : cs.length = 16) {p2 : Nat} (hp : p2 < w.heap.size) (to : Nat) (u0 : Value) (h0 : w.cell? ⟨p2, 0, none⟩ = some u0) (hf : w.frozen? ⟨p2, 0, none⟩ = false) :
    CloD w p2 (.agg cs.toArray) to (.returned (.tuple #[.agg cs.toArray, .int .i64 0])) ((w3.setCell ⟨p2, 0, none⟩ (.int .i64 (to : Int))).setCells w.heap.size 0 cs) := by
  have hb := h.below
  have hsz := hb.size
  have h1 : (w3.setCell ⟨p2, 0, none⟩ (.int .i64 (to : Int))).cell? ⟨p2, 0, none⟩ = some (.int .i64 (to : Int)) :=
    World.cell?_setCell_same w3 _ _ ((hb.cell (p := ⟨p2, 0, none⟩) hp).trans h0)
  refine ⟨rfl, ?_, ?_, ?_⟩
  · have hk : Below w.heap.size (w3.setCell ⟨p2, 0, none⟩ (.int .i64 (to : Int))) ((w3.setCell ⟨p2, 0, none⟩ (.int .i64 (to : Int))).setCells w.heap.size 0 cs) := below_setCells _ _ _ (Nat.le_refl _) _ _ _ (Below.refl _ _)
    refine ⟨hk.os.trans hb.os, hk.tape.trans hb.tape, hk.output.trans hb.output, Nat.le_trans hsz (Nat.le_trans (by simp [World.setCell]) hk.size), fun k hlt hne => ?_⟩
    rw [hk.block k hlt, Below.heap_setCell _ _ _ _ (by intro e; exact hne (by rw [e])), hb.block k hlt]
  · rw [World.cell?_setCells_out _ _ _ _ _ (fun e => by have e2 : p2 = w.heap.size := e; omega)]; exact h1
  · rw [World.frozen?_setCells, World.frozen?_setCell, hb.frozen (p := ⟨p2, 0, none⟩) hp]; exact hf
end

set_option maxRecDepth 100000 in
set_option maxHeartbeats 1000000 in
theorem clo_dig (bs : List UInt8) (n c : Nat) (A : Option Addr) (w : World) (B : Nat) (hl : Lies w B 1 A n c (bs.map bv)) (hB : B ≤ w.heap.size) (p0 p1 p2 at_ : Nat)
    (h0 : w.cell? ⟨p0, 0, none⟩ = some (.func (.func 43) #[] #[])) (h1 : w.cell? ⟨p1, 0, none⟩ = some (.slice A n c)) (h2 : w.cell? ⟨p2, 0, none⟩ = some (.int .i64 (at_ : Int)))
    (hf : w.frozen? ⟨p2, 0, none⟩ = false) (hat : at_ + 16 ≤ n) :
    Calls Try.prog 46 #[.pointer (some ⟨p0, 0, none⟩), .pointer (some ⟨p1, 0, none⟩), .pointer (some ⟨p2, 0, none⟩)] w (CloD w p2 (dv ((bs.drop at_).take 16)) (at_ + 16)) := by
  have hmost : c ≤ 9223372036854775807 := by have := hl.most; unfold maxLen at this; omega
  have hle := hl.le
  have hne : ¬ c = at_ := by omega
  have hne2 : ¬ (c : Int) = at_ := by omega
  have l0 : p0 < w.heap.size := World.block_lt_of_cell? w _ h0
  have l1 : p1 < w.heap.size := World.block_lt_of_cell? w _ h1
  have l2 : p2 < w.heap.size := World.block_lt_of_cell? w _ h2
  obtain ⟨b, o, rfl, -, -⟩ := hl.cells (by omega)
  have hl2 := (hl.drop (k := at_) (by omega)).more hB
  obtain ⟨cs, hcsd⟩ : ∃ cs, cs = ((bs.drop at_).take 16).map bv := ⟨_, rfl⟩
  have hcs : cs.length = 16 := by rw [hcsd]; have := hl.len; simp at this; simp; omega
  have hcd : ∀ W : World, Below w.heap.size w W → Calls Try.prog 43 #[.slice (some ⟨b, o + at_, none⟩) (n - at_) (c - at_)] W fun e w' => e = .returned (.tuple #[.agg cs.toArray, .int .i64 16, .int .i64 0]) ∧ Below W.heap.size W w' := by
    intro W hW
    have := dig_any (bs.drop at_) (n - at_) (c - at_) _ W ((hl2.below hW).more hW.size) (by omega)
    rw [hcsd]; exact this
  have hkeep : ∀ W w2 : World, Below w.heap.size w W → Below W.heap.size W w2 →
      w2.cell? ⟨p0, 0, none⟩ = some (.func (.func 43) #[] #[]) ∧ w2.cell? ⟨p1, 0, none⟩ = some (.slice (some ⟨b, o, none⟩) n c) ∧ w2.cell? ⟨p2, 0, none⟩ = some (.int .i64 (at_ : Int)) := by
    intro W w2 hW hb
    have hbw : Below w.heap.size w w2 := hW.trans (hb.mono hW.size)
    exact ⟨(hbw.cell (p := ⟨p0, 0, none⟩) l0).trans h0, (hbw.cell (p := ⟨p1, 0, none⟩) l1).trans h1, (hbw.cell (p := ⟨p2, 0, none⟩) l2).trans h2⟩
  have hkeepB : ∀ w2 : World, Below w.heap.size w w2 →
      w2.cell? ⟨p0, 0, none⟩ = some (.func (.func 43) #[] #[]) ∧ w2.cell? ⟨p1, 0, none⟩ = some (.slice (some ⟨b, o, none⟩) n c) ∧ w2.cell? ⟨p2, 0, none⟩ = some (.int .i64 (at_ : Int)) :=
    fun w2 hbw => ⟨(hbw.cell (p := ⟨p0, 0, none⟩) l0).trans h0, (hbw.cell (p := ⟨p1, 0, none⟩) l1).trans h1, (hbw.cell (p := ⟨p2, 0, none⟩) l2).trans h2⟩
  have hbw1 : Below w.heap.size w (w.alloc (.cells zero16.toArray 57)).drew := ((Below.refl w.heap.size w).alloc (Nat.le_refl _) _).drew
  have hbw2 : Below w.heap.size w ((w.alloc (.cells zero16.toArray 57)).alloc (.cells zero16.toArray 57)).drew := (((Below.refl w.heap.size w).alloc (Nat.le_refl _) _).alloc (by simp) _).drew
  have haf1 : ∀ w2 : World, Below (w.alloc (.cells zero16.toArray 57)).drew.heap.size (w.alloc (.cells zero16.toArray 57)).drew w2 →
      Below w.heap.size w w2 ∧ (w2.alloc (.cells zero16.toArray 57)).there w2.heap.size 0 cs.length ∧ After w ((w2.alloc (.cells zero16.toArray 57)).setCells w2.heap.size 0 cs) w2.heap.size cs :=
    fun w2 hb => ⟨hbw1.trans (hb.mono hbw1.size), by rw [hcs]; exact zero_there _ _ _ (heap_alloc_new w2 _), after_late w _ w2 _ cs hcs hbw1 (heap_alloc_new w _) hb⟩
  have haf2 : ∀ w2 : World, Below ((w.alloc (.cells zero16.toArray 57)).alloc (.cells zero16.toArray 57)).drew.heap.size ((w.alloc (.cells zero16.toArray 57)).alloc (.cells zero16.toArray 57)).drew w2 →
      Below w.heap.size w w2 ∧ w2.there (w.heap.size + 1) 0 cs.length ∧ After w (w2.setCells (w.heap.size + 1) 0 cs) (w.heap.size + 1) cs := fun w2 hb => by
    have g0 : ((w.alloc (.cells zero16.toArray 57)).alloc (.cells zero16.toArray 57)).drew.heap[w.heap.size]? = some (.cells zero16.toArray 57 (0, 0)) := heap_alloc2_old w _ _
    have g1 : ((w.alloc (.cells zero16.toArray 57)).alloc (.cells zero16.toArray 57)).drew.heap[w.heap.size + 1]? = some (.cells zero16.toArray 57 (0, 0)) := heap_alloc2_new w _ _
    refine ⟨hbw2.trans (hb.mono hbw2.size), ?_, after_early w _ w2 _ cs hcs hbw2 g0 g1 hb⟩
    rw [hcs]
    exact zero_there _ _ _ ((hb.block _ (by show _ < ((w.alloc _).alloc _).heap.size; simp only [size_alloc]; omega)).trans g1)
  have hone : ∀ v ∈ cs, v.oneCell' = true := by rw [hcsd]; exact bytes_one _
  have hszc : (Try.prog.info? 57).map (·.size) = some cs.length := by rw [hcs]; exact dig_size
  have hi1 : (0 : Int) ≤ (at_ : Int) := by omega
  have hi2 : (at_ : Int) ≤ (n : Int) := by omega
  have hi3 : (at_ : Int) ≤ (c : Int) := by omega
  have KEEP := Lib.hid hkeep; clear hkeep
  have KEEPB := Lib.hid hkeepB; clear hkeepB
  have AF1 := Lib.hid haf1; clear haf1
  have AF2 := Lib.hid haf2; clear haf2
  have BW1 := Lib.hid hbw1; clear hbw1
  have BW2 := Lib.hid hbw2; clear hbw2
  have HCD := Lib.hid hcd; clear hcd
  have HCS := Lib.hid hcs; clear hcs
  have hsz : cs.toArray.size = 16 := by rw [List.size_toArray]; exact HCS.out
  have HSZ := Lib.hid hsz; clear hsz
  have HCSD := Lib.hid hcsd; clear hcsd
  go_enter Try.func46, Try.ntmps46
  go_wp2
  go_region_held3 (fun w' => w'.cell? ⟨p0, 0, none⟩ = some (.func (.func 43) #[] #[]) ∧ w'.cell? ⟨p1, 0, none⟩ = some (.slice (some ⟨b, o, none⟩) n c) ∧ w'.cell? ⟨p2, 0, none⟩ = some (.int .i64 (at_ : Int)))
    (first | exact KEEPB.out _ hbw | exact KEEPB.out _ haf.below | exact KEEPB.out _ (hbw.alloc hbw.size _) | go_keep)
    (first | (go_at_call 43; refine (HCD.out _ BW1.out).mono ?_; rintro e w2 ⟨rfl, hb2⟩; obtain ⟨hbw, hth, haf⟩ := AF1.out w2 hb2) | (go_at_call 43; refine (HCD.out _ BW2.out).mono ?_; rintro e w2 ⟨rfl, hb2⟩; obtain ⟨hbw, hth, haf⟩ := AF2.out w2 hb2))
  all_goals
    have hfin := fun u => (haf.moved l2 u)
    have hdone := haf.done HCS.out l2 (at_ + 16) _ h2 hf
    have hp2 := (haf.below.cell (p := ⟨p2, 0, none⟩) l2).trans h2
    have hfz := (haf.below.frozen (p := ⟨p2, 0, none⟩) l2).trans hf
    have HFIN := Lib.hid hfin; clear hfin
    have HDONE := Lib.hid hdone; clear hdone
    go_wp2_with (first
      | ((with_reducible refine at_slot 20 rfl ?_); refine wpList_load_mid rfl 57 (.tmp 5) rfl _ 0 rfl cs _ (HFIN.out _).1 Try.underlying57 rfl hszc ?_)
      | ((with_reducible refine at_store 57 (.tmp 3) (.tmp 20) rfl ?_); refine wpList_store_mid rfl 57 (.tmp 3) (.tmp 20) rfl w.heap.size 0 cs.toArray rfl rfl (there_of (HFIN.out _).2 HSZ.out) (dig_size_of HSZ.out) (all_oneCell_toArray hone) ?_))
    have hth5 := there_of (HFIN.out (.int .i64 ((at_ : Int) + 16))).2 HCS.out
    have hrng := World.rangeAt_setCells_same _ w.heap.size 0 cs hth5
    have hload := run_loadVar_mid (P := Try.prog) _ w.heap.size 0 57 cs _ hrng Try.underlying57 rfl hszc
    have hdv : dv ((bs.drop at_).take 16) = .agg cs.toArray := by rw [HCSD.out]; rfl
    rw [hdv]
    refine bodyPost_ret (v := .tuple #[.agg cs.toArray, .int .i64 0]) ?_ rfl HDONE.out
    simp [results, Try.results46, asAddr]
    rw [hload]
    rfl

end Wire
end Go.Proofs.Ytlpkiaeimcoplaa
