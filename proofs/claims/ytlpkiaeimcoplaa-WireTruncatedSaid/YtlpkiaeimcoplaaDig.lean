/- Digests in memory, and what wire.getDigest returns. Condition: sixteen bytes are there. -/
import Derived.Test.YtlpkiaeimcoplaaBoxes
import Derived.Laws.CopyOwn
import Derived.Laws.Tables
namespace Go.Proofs.Ytlpkiaeimcoplaa
open Go.RowKit
namespace Wire

/-- A digest as a value. -/
def dv (d : List UInt8) : Value := .agg (d.map bv).toArray
abbrev zero16 : List Value := [.int .u8 0, .int .u8 0, .int .u8 0, .int .u8 0, .int .u8 0, .int .u8 0, .int .u8 0, .int .u8 0, .int .u8 0, .int .u8 0, .int .u8 0, .int .u8 0, .int .u8 0, .int .u8 0, .int .u8 0, .int .u8 0]
/-- A law is tried at the operation that writes slot k, and nowhere else. -/
theorem at_slot {P : Program} {ops : Array Oper} {rest : List Oper} {o : Oper} {a : Act} {w : World} {Q : Exit → Act → World → Prop} (k : Tmp) (_hd : o.dst = some k) (h : wpList P ops Q (o :: rest) a w) : wpList P ops Q (o :: rest) a w := h
theorem at_store {P : Program} {ops : Array Oper} {rest : List Oper} {o : Oper} {a : Act} {w : World} {Q : Exit → Act → World → Prop} (t : TypeId) (x y : Operand) (_ho : o.op = .store t x y) (h : wpList P ops Q (o :: rest) a w) : wpList P ops Q (o :: rest) a w := h

theorem dig_size : (Try.prog.info? 57).map (·.size) = some 16 := by kernel_rfl
theorem dig_size_of {cells : Array Value} (h : cells.size = 16) : (Try.prog.info? 57).map (·.size) = some cells.size := by rw [h]; exact dig_size
theorem byte_size : (Try.prog.info? 5).map (·.size) = some 1 := by kernel_rfl
theorem all_bytes (l : List UInt8) : ((l.map bv).toArray).all (·.oneCell') = true := by
  rw [Array.all_eq_true_iff_forall_mem]
  intro u hu
  exact bytes_one l u (by simpa using hu)

theorem splice_all {cs : List Value} (h : cs.length = 16) : splice zero16 0 cs = cs := by
  unfold splice
  rw [List.take_zero, List.nil_append, List.drop_eq_nil_of_le (by simp; omega), List.append_nil]

set_option maxRecDepth 100000 in
set_option maxHeartbeats 400000 in
theorem dig_any (bs : List UInt8) (n c : Nat) (A : Option Addr) (w : World) (hl : Lies w w.heap.size 1 A n c (bs.map bv)) (h16 : 16 ≤ n) :
    Calls Try.prog 43 #[.slice A n c] w fun e w' => e = .returned (.tuple #[dv (bs.take 16), .int .i64 16, .int .i64 0]) ∧ Below w.heap.size w w' := by
  have hbl : bs.length = n := by have := hl.len; simpa using this
  obtain ⟨b, o, rfl, hbB, hcells⟩ := hl.cells (by omega)
  have hcs : ((bs.take 16).map bv).length = 16 := by simp; omega
  have hl2 : Lies ((w.alloc (.cells zero16.toArray 57)).alloc (.cells zero16.toArray 57)) w.heap.size 1 (some ⟨b, o, none⟩) n c (bs.map bv) :=
    hl.keep fun p hp => (((Below.refl w.heap.size w).alloc (Nat.le_refl _) _).alloc (by simp) _).cell hp
  have hsrc : ∀ j u, ((bs.take 16).map bv)[j]? = some u → ((w.alloc (.cells zero16.toArray 57)).alloc (.cells zero16.toArray 57)).cell? ((⟨b, o, none⟩ : Addr).add j) = some u := by
    intro j u hu
    obtain ⟨b', o', e, _, hc⟩ := hl2.cells (by omega)
    simp only [Option.some.injEq, Addr.mk.injEq, and_true] at e
    obtain ⟨rfl, rfl⟩ := e
    have hadd : (⟨b, o, none⟩ : Addr).add j = ⟨b, o + j, none⟩ := by unfold Addr.add; split <;> simp_all
    rw [hadd]
    refine hc j u ?_
    rw [List.map_take, List.getElem?_take] at hu
    split at hu
    · exact hu
    · cases hu
  have hg1 : ((w.alloc (.cells zero16.toArray 57)).alloc (.cells zero16.toArray 57)).heap[w.heap.size + 1]? = some (.cells zero16.toArray 57 (0, 0)) := heap_alloc2_new w _ _
  have hg0 : ((w.alloc (.cells zero16.toArray 57)).alloc (.cells zero16.toArray 57)).heap[w.heap.size]? = some (.cells zero16.toArray 57 (0, 0)) := heap_alloc2_old w _ _
  have hmid : ∀ w2 : World, w2.heap[w.heap.size + 1]? = some (.cells (splice zero16 0 ((bs.take 16).map bv)).toArray 57 (0, 0)) → Below (w.heap.size + 1) ((w.alloc (.cells zero16.toArray 57)).alloc (.cells zero16.toArray 57)) w2 →
      Hid (w2.heap[w.heap.size + 1]? = some (.cells ((bs.take 16).map bv).toArray 57 (0, 0))) ∧ Hid (w2.heap[w.heap.size]? = some (.cells zero16.toArray 57 (0, 0))) ∧ Below w.heap.size w w2 := by
    intro w2 h1 h2
    rw [splice_all hcs] at h1
    exact ⟨h1, (h2.block _ (by omega)).trans hg0, (((Below.refl w.heap.size w).alloc (Nat.le_refl _) _).alloc (by simp) _).trans (h2.mono (by omega))⟩
  have HM := Lib.hid hmid; clear hmid
  have HS := Lib.hid hsrc; clear hsrc
  have HG1 := Lib.hid hg1; clear hg1
  have HG0 := Lib.hid hg0; clear hg0
  have HCS := Lib.hid hcs; clear hcs
  have HB := Lib.hid hbl; clear hbl
  go_enter Try.func43, Try.ntmps43
  go_wp2_with (first
    | ((with_reducible refine at_slot 8 rfl ?_); refine wpList_copy_splice rfl (.tmp 6) (.tmp 7) 28 28 rfl 5 Try.underlying28 byte_size _ _ 16 16 n c rfl rfl (w.heap.size + 1) 0 zero16 57 HG1.out ((bs.take 16).map bv) (by rw [HCS.out]; exact (Nat.min_eq_right h16).symm) (fun _ => ⟨rfl, _, rfl, HS.out⟩) (by rw [HCS.out]; exact Nat.le_refl _) (bytes_one _) (w.heap.size + 1) _ (Below.refl _ _) (Nat.le_refl _) ?_; intro w2 hw2 hb2; obtain ⟨h21, h20, hbw⟩ := HM.out w2 hw2 hb2; clear hw2 hb2)
    | ((with_reducible refine at_slot 9 rfl ?_); refine wpList_load_row rfl 57 (.tmp 5) rfl (w.heap.size + 1) rfl _ _ _ _ h21.out Try.underlying57 rfl (dig_size_of (by rw [List.size_toArray]; exact HCS.out)) ?_)
    | ((with_reducible refine at_store 57 (.tmp 2) (.tmp 9) rfl ?_); refine wpList_store_row rfl 57 (.tmp 2) (.tmp 9) rfl w.heap.size _ rfl rfl _ _ h20.out (dig_size_of (by rw [List.size_toArray]; exact HCS.out)) (by rw [List.size_toArray, List.size_toArray, HCS.out]; rfl) (all_bytes _) ?_))
  have hmt : (List.take 16 (List.map bv bs)) = (bs.take 16).map bv := List.map_take.symm
  rw [hmt]
  have hrow : (w2.setRow w.heap.size ((bs.take 16).map bv).toArray).heap[w.heap.size]? = some (.cells ((bs.take 16).map bv).toArray 57 (0, 0)) := setRow_heap w2 w.heap.size _ _ _ _ h20.out
  have hload := run_loadVar_row (P := Try.prog) (w2.setRow w.heap.size ((bs.take 16).map bv).toArray) w.heap.size 57 57 _ (0, 0) _ hrow Try.underlying57 rfl (dig_size_of (by rw [List.size_toArray]; exact HCS.out))
  refine bodyPost_ret (v := .tuple #[dv (bs.take 16), .int .i64 16, .int .i64 0]) ?_ rfl ⟨rfl, ?_⟩
  · simp [results, Try.results43, asAddr]
    rw [hmt, hload]
    rfl
  · exact below_setRow hbw (Nat.le_refl _) _
end Wire
end Go.Proofs.Ytlpkiaeimcoplaa
