/- Package lex: the table of units, secondsOf. Condition: the table of units is laid. -/
import Derived.Test.YtjijlepkcghmeaaDoorLxA4
import Derived.Laws.StructEq
namespace Go.Proofs.YtjijlepkcghmeaaDoor
open Go.RowKit
namespace Lx
open Wire (bv sv)
open Hash (Arr)

def us : List Value := [.int .u8 115, .int .i64 1, .int .u8 109, .int .i64 60, .int .u8 104, .int .i64 3600, .int .u8 100, .int .i64 86400]
/-- The table of units is laid. -/
def Units (w : World) : Prop := ∀ (j : Nat) (u : Value), us[j]? = some u → w.cell? ⟨1, j, none⟩ = some u
theorem Units.size {w : World} (h : Units w) : 1 < w.heap.size := World.block_lt_of_cell? w _ (h 0 _ rfl)
theorem Units.on {w w' : World} (h : Units w) (hb : Below w.heap.size w w') : Units w' := fun j u hu => (hb.cell (p := ⟨1, j, none⟩) h.size).trans (h j u hu)
theorem units_range {w : World} (h : Units w) : w.rangeAt 1 0 us := fun j u hu => by rw [Nat.zero_add]; exact h j u hu

/-- What the first units say. -/
def uLet (k : Nat) : Nat := [115, 109, 104, 100].getD k 0
theorem unit_of (c : UInt8) : unit c = if c.toNat = 115 then 1 else if c.toNat = 109 then 60 else if c.toNat = 104 then 3600 else if c.toNat = 100 then 86400 else 0 := by
  have e : ∀ (n : Nat) (d : UInt8), d.toNat = n → (c = d ↔ c.toNat = n) := fun n d hd => by rw [← hd, ← UInt8.toNat_inj]
  unfold unit
  simp only [e 115 115 rfl, e 109 109 rfl, e 104 104 rfl, e 100 100 rfl]

theorem ix_us0 (W : World) : (Instr.index 68 (.agg #[.int .u8 115, .int .i64 1, .int .u8 109, .int .i64 60, .int .u8 104, .int .i64 3600, .int .u8 100, .int .i64 86400]) (.int .i64 0)).run Tryd.prog W = .ok (.agg #[.int .u8 115, .int .i64 1]) W := by kernel_rfl
theorem ix_us1 (W : World) : (Instr.index 68 (.agg #[.int .u8 115, .int .i64 1, .int .u8 109, .int .i64 60, .int .u8 104, .int .i64 3600, .int .u8 100, .int .i64 86400]) (.int .i64 1)).run Tryd.prog W = .ok (.agg #[.int .u8 109, .int .i64 60]) W := by kernel_rfl
theorem ix_us2 (W : World) : (Instr.index 68 (.agg #[.int .u8 115, .int .i64 1, .int .u8 109, .int .i64 60, .int .u8 104, .int .i64 3600, .int .u8 100, .int .i64 86400]) (.int .i64 2)).run Tryd.prog W = .ok (.agg #[.int .u8 104, .int .i64 3600]) W := by kernel_rfl
theorem ix_us3 (W : World) : (Instr.index 68 (.agg #[.int .u8 115, .int .i64 1, .int .u8 109, .int .i64 60, .int .u8 104, .int .i64 3600, .int .u8 100, .int .i64 86400]) (.int .i64 3)).run Tryd.prog W = .ok (.agg #[.int .u8 100, .int .i64 86400]) W := by kernel_rfl

set_option maxRecDepth 100000 in
set_option maxHeartbeats 1000000 in
theorem seconds_nil (w : World) (hu : Units w) : Calls Tryd.prog 48 #[.string ⟨#[]⟩] w (fun e w' => e = .returned (.int .i64 0) ∧ Below w.heap.size w w') := by
  have hr := Lib.hid (units_range hu)
  clear hu
  go_enter Tryd.func48, Tryd.ntmps48
  go_wp2_with (first
    | ((with_reducible refine Hash.at_slot 5 rfl ?_); refine wpList_load_mid rfl 68 (.global 1) rfl 1 0 rfl us _ hr.out Tryd.underlying68 rfl (by kernel_rfl) ?_))
  unfold us
  go_loopw [6] (fun iv wr => ∃ (k : Int), (k = 0 ∨ k = 1 ∨ k = 2 ∨ k = 3 ∨ k = 4) ∧ iv = .int .i64 k ∧ Below w.heap.size w wr) (fun iv _ => (4 - intOf iv).toNat)
  case atStart => exact ⟨0, .inl rfl, rfl, Below.refl _ _⟩
  case round =>
    clear hr
    obtain ⟨k, hk, rfl, hb⟩ := hrel
    rcases hk with rfl | rfl | rfl | rfl | rfl
    · have ix := ix_us0
      go_wp2
      refine QTail.whole (fun W => Below w.heap.size w W) (by kernel_rfl) (by kernel_rfl) (Wire.bc hb (Wire.b1 _ _)).drew ?_
      (refine wpQuiet_step (fun K hK => ?_); go_simp; (first | refine hK _ ?_ | refine ⟨_, fun _ _ => rfl, hK _ ?_⟩); clear hK K)
      (refine wpQuiet_step (fun K hK => ?_); go_simp; (first | refine hK _ ?_ | refine ⟨_, fun _ _ => rfl, hK _ ?_⟩); clear hK K)
      (refine wpQuiet_step (fun K hK => ?_); go_simp; (first | refine hK _ ?_ | refine ⟨_, fun _ _ => rfl, hK _ ?_⟩); clear hK K)
      (with_reducible refine wpQuiet_step (fun K hK => ?_)); go_simp; (with_reducible refine hK _ ?_); clear hK K
      (with_reducible refine wpQuiet_step (fun K hK => ?_)); go_simp; (with_reducible refine hK _ ?_); clear hK K
      (with_reducible refine wpQuiet_step (fun K hK => ?_)); go_simp; (with_reducible refine hK _ ?_); clear hK K
      (with_reducible refine wpQuiet_step (fun K hK => ?_)); go_simp; (with_reducible refine hK _ ?_); clear hK K
      (with_reducible refine wpQuiet_step (fun K hK => ?_)); go_simp; (with_reducible refine hK _ ?_); clear hK K
      (refine wpQuiet_step (fun K hK => ?_); go_simp; (first | refine hK _ ?_ | refine ⟨_, fun _ _ => rfl, hK _ ?_⟩); clear hK K)
      refine wpQuiet_nil ?_
      intro w3 hb3
      go_wp2
      go_roundw
      case rel => exact ⟨_, by simp, rfl, hb3⟩
      case measure => simp [intOf]
    · have ix := ix_us1
      go_wp2
      refine QTail.whole (fun W => Below w.heap.size w W) (by kernel_rfl) (by kernel_rfl) (Wire.bc hb (Wire.b1 _ _)).drew ?_
      (refine wpQuiet_step (fun K hK => ?_); go_simp; (first | refine hK _ ?_ | refine ⟨_, fun _ _ => rfl, hK _ ?_⟩); clear hK K)
      (refine wpQuiet_step (fun K hK => ?_); go_simp; (first | refine hK _ ?_ | refine ⟨_, fun _ _ => rfl, hK _ ?_⟩); clear hK K)
      (refine wpQuiet_step (fun K hK => ?_); go_simp; (first | refine hK _ ?_ | refine ⟨_, fun _ _ => rfl, hK _ ?_⟩); clear hK K)
      (with_reducible refine wpQuiet_step (fun K hK => ?_)); go_simp; (with_reducible refine hK _ ?_); clear hK K
      (with_reducible refine wpQuiet_step (fun K hK => ?_)); go_simp; (with_reducible refine hK _ ?_); clear hK K
      (with_reducible refine wpQuiet_step (fun K hK => ?_)); go_simp; (with_reducible refine hK _ ?_); clear hK K
      (with_reducible refine wpQuiet_step (fun K hK => ?_)); go_simp; (with_reducible refine hK _ ?_); clear hK K
      (with_reducible refine wpQuiet_step (fun K hK => ?_)); go_simp; (with_reducible refine hK _ ?_); clear hK K
      (refine wpQuiet_step (fun K hK => ?_); go_simp; (first | refine hK _ ?_ | refine ⟨_, fun _ _ => rfl, hK _ ?_⟩); clear hK K)
      refine wpQuiet_nil ?_
      intro w3 hb3
      go_wp2
      go_roundw
      case rel => exact ⟨_, by simp, rfl, hb3⟩
      case measure => simp [intOf]
    · have ix := ix_us2
      go_wp2
      refine QTail.whole (fun W => Below w.heap.size w W) (by kernel_rfl) (by kernel_rfl) (Wire.bc hb (Wire.b1 _ _)).drew ?_
      (refine wpQuiet_step (fun K hK => ?_); go_simp; (first | refine hK _ ?_ | refine ⟨_, fun _ _ => rfl, hK _ ?_⟩); clear hK K)
      (refine wpQuiet_step (fun K hK => ?_); go_simp; (first | refine hK _ ?_ | refine ⟨_, fun _ _ => rfl, hK _ ?_⟩); clear hK K)
      (refine wpQuiet_step (fun K hK => ?_); go_simp; (first | refine hK _ ?_ | refine ⟨_, fun _ _ => rfl, hK _ ?_⟩); clear hK K)
      (with_reducible refine wpQuiet_step (fun K hK => ?_)); go_simp; (with_reducible refine hK _ ?_); clear hK K
      (with_reducible refine wpQuiet_step (fun K hK => ?_)); go_simp; (with_reducible refine hK _ ?_); clear hK K
      (with_reducible refine wpQuiet_step (fun K hK => ?_)); go_simp; (with_reducible refine hK _ ?_); clear hK K
      (with_reducible refine wpQuiet_step (fun K hK => ?_)); go_simp; (with_reducible refine hK _ ?_); clear hK K
      (with_reducible refine wpQuiet_step (fun K hK => ?_)); go_simp; (with_reducible refine hK _ ?_); clear hK K
      (refine wpQuiet_step (fun K hK => ?_); go_simp; (first | refine hK _ ?_ | refine ⟨_, fun _ _ => rfl, hK _ ?_⟩); clear hK K)
      refine wpQuiet_nil ?_
      intro w3 hb3
      go_wp2
      go_roundw
      case rel => exact ⟨_, by simp, rfl, hb3⟩
      case measure => simp [intOf]
    · have ix := ix_us3
      go_wp2
      refine QTail.whole (fun W => Below w.heap.size w W) (by kernel_rfl) (by kernel_rfl) (Wire.bc hb (Wire.b1 _ _)).drew ?_
      (refine wpQuiet_step (fun K hK => ?_); go_simp; (first | refine hK _ ?_ | refine ⟨_, fun _ _ => rfl, hK _ ?_⟩); clear hK K)
      (refine wpQuiet_step (fun K hK => ?_); go_simp; (first | refine hK _ ?_ | refine ⟨_, fun _ _ => rfl, hK _ ?_⟩); clear hK K)
      (refine wpQuiet_step (fun K hK => ?_); go_simp; (first | refine hK _ ?_ | refine ⟨_, fun _ _ => rfl, hK _ ?_⟩); clear hK K)
      (with_reducible refine wpQuiet_step (fun K hK => ?_)); go_simp; (with_reducible refine hK _ ?_); clear hK K
      (with_reducible refine wpQuiet_step (fun K hK => ?_)); go_simp; (with_reducible refine hK _ ?_); clear hK K
      (with_reducible refine wpQuiet_step (fun K hK => ?_)); go_simp; (with_reducible refine hK _ ?_); clear hK K
      (with_reducible refine wpQuiet_step (fun K hK => ?_)); go_simp; (with_reducible refine hK _ ?_); clear hK K
      (with_reducible refine wpQuiet_step (fun K hK => ?_)); go_simp; (with_reducible refine hK _ ?_); clear hK K
      (refine wpQuiet_step (fun K hK => ?_); go_simp; (first | refine hK _ ?_ | refine ⟨_, fun _ _ => rfl, hK _ ?_⟩); clear hK K)
      refine wpQuiet_nil ?_
      intro w3 hb3
      go_wp2
      go_roundw
      case rel => exact ⟨_, by simp, rfl, hb3⟩
      case measure => simp [intOf]
    · go_wp2
      go_ret
      exact ⟨rfl, hb⟩

section
open QTail
variable {P : Program} {ops : Array Oper} {C : World → Prop} {Q : Act → Prop} {a : Act} {o : Oper} {rest : List Oper}
/-- A comparison in a drawn region. -/
theorem cmpG (hw : Region.wanted o (yielded ops a.tmps) = true) (b : BinOp) (t t2 : TypeId) (x y : Operand) (ho : o.op = .binOp b t x y t2) (X Y : Value) (hx : a.eval x = X) (hy : a.eval y = Y) (r : Bool)
    (hg : ∀ W, (eqGuard b t x y X Y).run P W = .ok () W) (he : ∀ W, C W → (binOp b t X Y).run P W = .ok (.bool r) W) (h : wpQuiet P ops C Q rest (a.put o.dst (.bool r))) : wpQuiet P ops C Q (o :: rest) a := by
  unfold wpQuiet
  rw [if_pos hw]
  refine ⟨.bool r, fun w' hw' => ?_, h⟩
  unfold Oper.quietAt execOp
  simp only [ho, hx, hy, Sem.run_bind, Sem.run_pure, hg w', he w' hw', Result.andThen_ok]
  exact ⟨rfl, rfl⟩
end
theorem eqgT (b : BinOp) (t : TypeId) (x y : Operand) (u v : ByteArray) (W : World) : (eqGuard b t x y (.string u) (.string v)).run Tryd.prog W = .ok () W := by
  cases b <;> rfl
theorem neq_nil (c : UInt8) (r : List UInt8) (W : World) : (binOp .neq 9 (.string ⟨(c :: r).toArray⟩) (.string ⟨#[]⟩)).run Tryd.prog W = .ok (.bool true) W := by
  unfold binOp
  simp [Op.stringOp]
theorem index_hd (c : UInt8) (r : List UInt8) (W : World) : (Instr.index 9 (.string ⟨(c :: r).toArray⟩) (.int .i64 0)).run Tryd.prog W = .ok (.int .u8 (c.toNat : Int)) W := index_at (c :: r) 0 (by simp) W
set_option maxRecDepth 100000 in
set_option maxHeartbeats 2000000 in
theorem seconds_cons (c : UInt8) (r : List UInt8) (_hl : r.length ≤ 1048576) (w : World) (hu : Units w) : Calls Tryd.prog 48 #[.string ⟨(c :: r).toArray⟩] w (fun e w' => e = .returned (.int .i64 (unit c : Int)) ∧ Below w.heap.size w w') := by
  have hr := Lib.hid (units_range hu)
  have HI := Lib.hid (index_hd c r)
  have HN := Lib.hid (neq_nil c r)
  have hs := size_of (c :: r)
  rw [List.length_cons] at hs
  clear hu
  have HR := Lib.hid (unit_int c)
  generalize (unit c : Int) = R at *
  generalize (⟨(c :: r).toArray⟩ : ByteArray) = T at *
  generalize (c.toNat : Int) = x at *
  go_enter Tryd.func48, Tryd.ntmps48
  go_wp2_with (first
    | ((with_reducible refine Hash.at_slot 5 rfl ?_); refine wpList_load_mid rfl 68 (.global 1) rfl 1 0 rfl us _ hr.out Tryd.underlying68 rfl (by kernel_rfl) ?_))
  unfold us
  go_loopw [6] (fun iv wr => ∃ (k : Int), Hid (k = 0 ∨ (k = 1 ∧ ¬ x = 115) ∨ (k = 2 ∧ ¬ x = 115 ∧ ¬ x = 109) ∨ (k = 3 ∧ ¬ x = 115 ∧ ¬ x = 109 ∧ ¬ x = 104) ∨ (k = 4 ∧ ¬ x = 115 ∧ ¬ x = 109 ∧ ¬ x = 104 ∧ ¬ x = 100)) ∧ iv = .int .i64 k ∧ Below w.heap.size w wr) (fun iv _ => (4 - intOf iv).toNat)
  case atStart => exact ⟨0, Lib.hid (.inl rfl), rfl, Below.refl _ _⟩
  case round =>
    clear hr
    obtain ⟨k, hk, rfl, hb⟩ := hrel
    rcases hk.out with rfl | ⟨rfl, n1⟩ | ⟨rfl, n1, n2⟩ | ⟨rfl, n1, n2, n3⟩ | ⟨rfl, n1, n2, n3, n4⟩
    · have ix := ix_us0
      have hi := HI.out
      have CC : Hid (∀ W, Below (wr.heap.size + 1) (wr.alloc (.cells #[.int .u8 115, .int .i64 1] 67)) W → W.cell? ⟨wr.heap.size, 0, none⟩ = some (.int .u8 115) ∧ W.cell? ⟨wr.heap.size, 1, none⟩ = some (.int .i64 1) ∧ Below w.heap.size w W) := Lib.hid (fun W h => by
        have hA := Hash.arr_new wr #[.int .u8 115, .int .i64 1] 67
        exact ⟨(h.cell (by exact Nat.lt_succ_self _)).trans (hA.at_ (i := 0) rfl).1, (h.cell (by exact Nat.lt_succ_self _)).trans (hA.at_ (i := 1) rfl).1, Wire.bc hb ((Wire.b1 _ _).trans (h.mono (Nat.le_succ _)))⟩)
      have C0 : Hid (∀ W, Below (wr.heap.size + 1) (wr.alloc (.cells #[.int .u8 115, .int .i64 1] 67)) W → W.cell? ⟨wr.heap.size, 0, none⟩ = some (.int .u8 115)) := Lib.hid (fun W h => (CC.out W h).1)
      by_cases e : x = 115
      · have HE := HR.out
        rw [if_pos e] at HE
        have HE := Lib.hid HE
        clear HR
        subst e
        go_wp2
        refine QTail.whole (fun W => Below (wr.heap.size + 1) (wr.alloc (.cells #[.int .u8 115, .int .i64 1] 67)) W) (by kernel_rfl) (by kernel_rfl) (Below.refl _ _).drew ?_
        (refine wpQuiet_step (fun K hK => ?_); go_simp; (first | refine hK _ ?_ | refine ⟨_, fun _ _ => rfl, hK _ ?_⟩); clear hK K)
        refine cmpG (by rfl) .neq 9 _ (.tmp 9) _ rfl (.string T) (.string ⟨#[]⟩) rfl rfl true (eqgT _ _ _ _ _ _) (fun W _ => HN.out W) ?_
        (refine wpQuiet_step (fun K hK => ?_); go_simp; (first | refine hK _ ?_ | refine ⟨_, fun _ _ => rfl, hK _ ?_⟩); clear hK K)
        (refine wpQuiet_step (fun K hK => ?_); go_simp; (first | refine hK _ ?_ | refine ⟨_, fun _ _ => rfl, hK _ ?_⟩); clear hK K)
        (refine wpQuiet_step (fun K hK => ?_); go_simp; (first | refine hK _ ?_ | refine ⟨_, fun _ _ => rfl, hK _ ?_⟩); clear hK K)
        (refine wpQuiet_step (fun K hK => ?_); go_simp; refine ⟨.pointer (some ⟨wr.heap.size, 0, none⟩), fun W hW => ?_, hK _ ?_⟩; (first | (rw [if_pos (by omega)]; exact ⟨rfl, rfl⟩) | (rw [if_pos (by omega)]; rfl) | exact ⟨rfl, rfl⟩ | rfl); clear hK K)
        (refine wpQuiet_step (fun K hK => ?_); go_simp; refine ⟨(.int .u8 115), fun W hW => ?_, hK _ ?_⟩; (first | (rw [C0.out W hW]; exact ⟨rfl, rfl⟩) | (rw [C0.out W hW]; rfl)); clear hK K)
        (refine wpQuiet_step (fun K hK => ?_); go_simp; (first | refine hK _ ?_ | refine ⟨_, fun _ _ => rfl, hK _ ?_⟩); clear hK K)
        (refine wpQuiet_step (fun K hK => ?_); go_simp; (first | refine hK _ ?_ | refine ⟨_, fun _ _ => rfl, hK _ ?_⟩); clear hK K)
        refine wpQuiet_nil ?_
        intro w3 hb3
        obtain ⟨q0, q1, hb4⟩ := CC.out w3 hb3
        clear hb3 C0 CC q0
        go_wp2
        go_ret
        exact ⟨by rw [HE.out]; rfl, hb4⟩
      · have n1 := e
        have hx : (x == 115) = false := by simpa using e
        clear e
        go_wp2
        refine QTail.whole (fun W => Below (wr.heap.size + 1) (wr.alloc (.cells #[.int .u8 115, .int .i64 1] 67)) W) (by kernel_rfl) (by kernel_rfl) (Below.refl _ _).drew ?_
        (refine wpQuiet_step (fun K hK => ?_); go_simp; (first | refine hK _ ?_ | refine ⟨_, fun _ _ => rfl, hK _ ?_⟩); clear hK K)
        refine cmpG (by rfl) .neq 9 _ (.tmp 9) _ rfl (.string T) (.string ⟨#[]⟩) rfl rfl true (eqgT _ _ _ _ _ _) (fun W _ => HN.out W) ?_
        (refine wpQuiet_step (fun K hK => ?_); go_simp; (first | refine hK _ ?_ | refine ⟨_, fun _ _ => rfl, hK _ ?_⟩); clear hK K)
        (refine wpQuiet_step (fun K hK => ?_); go_simp; (first | refine hK _ ?_ | refine ⟨_, fun _ _ => rfl, hK _ ?_⟩); clear hK K)
        (refine wpQuiet_step (fun K hK => ?_); go_simp; (first | refine hK _ ?_ | refine ⟨_, fun _ _ => rfl, hK _ ?_⟩); clear hK K)
        (refine wpQuiet_step (fun K hK => ?_); go_simp; refine ⟨.pointer (some ⟨wr.heap.size, 0, none⟩), fun W hW => ?_, hK _ ?_⟩; (first | (rw [if_pos (by omega)]; exact ⟨rfl, rfl⟩) | (rw [if_pos (by omega)]; rfl) | exact ⟨rfl, rfl⟩ | rfl); clear hK K)
        (refine wpQuiet_step (fun K hK => ?_); go_simp; refine ⟨(.int .u8 115), fun W hW => ?_, hK _ ?_⟩; (first | (rw [C0.out W hW]; exact ⟨rfl, rfl⟩) | (rw [C0.out W hW]; rfl)); clear hK K)
        (refine wpQuiet_step (fun K hK => ?_); go_simp; (first | refine hK _ ?_ | refine ⟨_, fun _ _ => rfl, hK _ ?_⟩); clear hK K)
        (refine wpQuiet_step (fun K hK => ?_); go_simp; (first | refine hK _ ?_ | refine ⟨_, fun _ _ => rfl, hK _ ?_⟩); clear hK K)
        refine wpQuiet_nil ?_
        intro w3 hb3
        obtain ⟨q0, q1, hb4⟩ := CC.out w3 hb3
        clear hb3 C0 CC q0 q1 hi
        go_wp2
        go_roundw
        case rel => exact ⟨_, Lib.hid (.inr (.inl ⟨rfl, n1⟩)), rfl, hb4⟩
        case measure => simp [intOf]
    · have ix := ix_us1
      have hi := HI.out
      have CC : Hid (∀ W, Below (wr.heap.size + 1) (wr.alloc (.cells #[.int .u8 109, .int .i64 60] 67)) W → W.cell? ⟨wr.heap.size, 0, none⟩ = some (.int .u8 109) ∧ W.cell? ⟨wr.heap.size, 1, none⟩ = some (.int .i64 60) ∧ Below w.heap.size w W) := Lib.hid (fun W h => by
        have hA := Hash.arr_new wr #[.int .u8 109, .int .i64 60] 67
        exact ⟨(h.cell (by exact Nat.lt_succ_self _)).trans (hA.at_ (i := 0) rfl).1, (h.cell (by exact Nat.lt_succ_self _)).trans (hA.at_ (i := 1) rfl).1, Wire.bc hb ((Wire.b1 _ _).trans (h.mono (Nat.le_succ _)))⟩)
      have C0 : Hid (∀ W, Below (wr.heap.size + 1) (wr.alloc (.cells #[.int .u8 109, .int .i64 60] 67)) W → W.cell? ⟨wr.heap.size, 0, none⟩ = some (.int .u8 109)) := Lib.hid (fun W h => (CC.out W h).1)
      by_cases e : x = 109
      · have HE := HR.out
        rw [if_neg n1, if_pos e] at HE
        have HE := Lib.hid HE
        clear HR
        subst e
        go_wp2
        refine QTail.whole (fun W => Below (wr.heap.size + 1) (wr.alloc (.cells #[.int .u8 109, .int .i64 60] 67)) W) (by kernel_rfl) (by kernel_rfl) (Below.refl _ _).drew ?_
        (refine wpQuiet_step (fun K hK => ?_); go_simp; (first | refine hK _ ?_ | refine ⟨_, fun _ _ => rfl, hK _ ?_⟩); clear hK K)
        refine cmpG (by rfl) .neq 9 _ (.tmp 9) _ rfl (.string T) (.string ⟨#[]⟩) rfl rfl true (eqgT _ _ _ _ _ _) (fun W _ => HN.out W) ?_
        (refine wpQuiet_step (fun K hK => ?_); go_simp; (first | refine hK _ ?_ | refine ⟨_, fun _ _ => rfl, hK _ ?_⟩); clear hK K)
        (refine wpQuiet_step (fun K hK => ?_); go_simp; (first | refine hK _ ?_ | refine ⟨_, fun _ _ => rfl, hK _ ?_⟩); clear hK K)
        (refine wpQuiet_step (fun K hK => ?_); go_simp; (first | refine hK _ ?_ | refine ⟨_, fun _ _ => rfl, hK _ ?_⟩); clear hK K)
        (refine wpQuiet_step (fun K hK => ?_); go_simp; refine ⟨.pointer (some ⟨wr.heap.size, 0, none⟩), fun W hW => ?_, hK _ ?_⟩; (first | (rw [if_pos (by omega)]; exact ⟨rfl, rfl⟩) | (rw [if_pos (by omega)]; rfl) | exact ⟨rfl, rfl⟩ | rfl); clear hK K)
        (refine wpQuiet_step (fun K hK => ?_); go_simp; refine ⟨(.int .u8 109), fun W hW => ?_, hK _ ?_⟩; (first | (rw [C0.out W hW]; exact ⟨rfl, rfl⟩) | (rw [C0.out W hW]; rfl)); clear hK K)
        (refine wpQuiet_step (fun K hK => ?_); go_simp; (first | refine hK _ ?_ | refine ⟨_, fun _ _ => rfl, hK _ ?_⟩); clear hK K)
        (refine wpQuiet_step (fun K hK => ?_); go_simp; (first | refine hK _ ?_ | refine ⟨_, fun _ _ => rfl, hK _ ?_⟩); clear hK K)
        refine wpQuiet_nil ?_
        intro w3 hb3
        obtain ⟨q0, q1, hb4⟩ := CC.out w3 hb3
        clear hb3 C0 CC q0
        go_wp2
        go_ret
        exact ⟨by rw [HE.out]; rfl, hb4⟩
      · have n2 := e
        have hx : (x == 109) = false := by simpa using e
        clear e
        go_wp2
        refine QTail.whole (fun W => Below (wr.heap.size + 1) (wr.alloc (.cells #[.int .u8 109, .int .i64 60] 67)) W) (by kernel_rfl) (by kernel_rfl) (Below.refl _ _).drew ?_
        (refine wpQuiet_step (fun K hK => ?_); go_simp; (first | refine hK _ ?_ | refine ⟨_, fun _ _ => rfl, hK _ ?_⟩); clear hK K)
        refine cmpG (by rfl) .neq 9 _ (.tmp 9) _ rfl (.string T) (.string ⟨#[]⟩) rfl rfl true (eqgT _ _ _ _ _ _) (fun W _ => HN.out W) ?_
        (refine wpQuiet_step (fun K hK => ?_); go_simp; (first | refine hK _ ?_ | refine ⟨_, fun _ _ => rfl, hK _ ?_⟩); clear hK K)
        (refine wpQuiet_step (fun K hK => ?_); go_simp; (first | refine hK _ ?_ | refine ⟨_, fun _ _ => rfl, hK _ ?_⟩); clear hK K)
        (refine wpQuiet_step (fun K hK => ?_); go_simp; (first | refine hK _ ?_ | refine ⟨_, fun _ _ => rfl, hK _ ?_⟩); clear hK K)
        (refine wpQuiet_step (fun K hK => ?_); go_simp; refine ⟨.pointer (some ⟨wr.heap.size, 0, none⟩), fun W hW => ?_, hK _ ?_⟩; (first | (rw [if_pos (by omega)]; exact ⟨rfl, rfl⟩) | (rw [if_pos (by omega)]; rfl) | exact ⟨rfl, rfl⟩ | rfl); clear hK K)
        (refine wpQuiet_step (fun K hK => ?_); go_simp; refine ⟨(.int .u8 109), fun W hW => ?_, hK _ ?_⟩; (first | (rw [C0.out W hW]; exact ⟨rfl, rfl⟩) | (rw [C0.out W hW]; rfl)); clear hK K)
        (refine wpQuiet_step (fun K hK => ?_); go_simp; (first | refine hK _ ?_ | refine ⟨_, fun _ _ => rfl, hK _ ?_⟩); clear hK K)
        (refine wpQuiet_step (fun K hK => ?_); go_simp; (first | refine hK _ ?_ | refine ⟨_, fun _ _ => rfl, hK _ ?_⟩); clear hK K)
        refine wpQuiet_nil ?_
        intro w3 hb3
        obtain ⟨q0, q1, hb4⟩ := CC.out w3 hb3
        clear hb3 C0 CC q0 q1 hi
        go_wp2
        go_roundw
        case rel => exact ⟨_, Lib.hid (.inr (.inr (.inl ⟨rfl, n1, n2⟩))), rfl, hb4⟩
        case measure => simp [intOf]
    · have ix := ix_us2
      have hi := HI.out
      have CC : Hid (∀ W, Below (wr.heap.size + 1) (wr.alloc (.cells #[.int .u8 104, .int .i64 3600] 67)) W → W.cell? ⟨wr.heap.size, 0, none⟩ = some (.int .u8 104) ∧ W.cell? ⟨wr.heap.size, 1, none⟩ = some (.int .i64 3600) ∧ Below w.heap.size w W) := Lib.hid (fun W h => by
        have hA := Hash.arr_new wr #[.int .u8 104, .int .i64 3600] 67
        exact ⟨(h.cell (by exact Nat.lt_succ_self _)).trans (hA.at_ (i := 0) rfl).1, (h.cell (by exact Nat.lt_succ_self _)).trans (hA.at_ (i := 1) rfl).1, Wire.bc hb ((Wire.b1 _ _).trans (h.mono (Nat.le_succ _)))⟩)
      have C0 : Hid (∀ W, Below (wr.heap.size + 1) (wr.alloc (.cells #[.int .u8 104, .int .i64 3600] 67)) W → W.cell? ⟨wr.heap.size, 0, none⟩ = some (.int .u8 104)) := Lib.hid (fun W h => (CC.out W h).1)
      by_cases e : x = 104
      · have HE := HR.out
        rw [if_neg n1, if_neg n2, if_pos e] at HE
        have HE := Lib.hid HE
        clear HR
        subst e
        go_wp2
        refine QTail.whole (fun W => Below (wr.heap.size + 1) (wr.alloc (.cells #[.int .u8 104, .int .i64 3600] 67)) W) (by kernel_rfl) (by kernel_rfl) (Below.refl _ _).drew ?_
        (refine wpQuiet_step (fun K hK => ?_); go_simp; (first | refine hK _ ?_ | refine ⟨_, fun _ _ => rfl, hK _ ?_⟩); clear hK K)
        refine cmpG (by rfl) .neq 9 _ (.tmp 9) _ rfl (.string T) (.string ⟨#[]⟩) rfl rfl true (eqgT _ _ _ _ _ _) (fun W _ => HN.out W) ?_
        (refine wpQuiet_step (fun K hK => ?_); go_simp; (first | refine hK _ ?_ | refine ⟨_, fun _ _ => rfl, hK _ ?_⟩); clear hK K)
        (refine wpQuiet_step (fun K hK => ?_); go_simp; (first | refine hK _ ?_ | refine ⟨_, fun _ _ => rfl, hK _ ?_⟩); clear hK K)
        (refine wpQuiet_step (fun K hK => ?_); go_simp; (first | refine hK _ ?_ | refine ⟨_, fun _ _ => rfl, hK _ ?_⟩); clear hK K)
        (refine wpQuiet_step (fun K hK => ?_); go_simp; refine ⟨.pointer (some ⟨wr.heap.size, 0, none⟩), fun W hW => ?_, hK _ ?_⟩; (first | (rw [if_pos (by omega)]; exact ⟨rfl, rfl⟩) | (rw [if_pos (by omega)]; rfl) | exact ⟨rfl, rfl⟩ | rfl); clear hK K)
        (refine wpQuiet_step (fun K hK => ?_); go_simp; refine ⟨(.int .u8 104), fun W hW => ?_, hK _ ?_⟩; (first | (rw [C0.out W hW]; exact ⟨rfl, rfl⟩) | (rw [C0.out W hW]; rfl)); clear hK K)
        (refine wpQuiet_step (fun K hK => ?_); go_simp; (first | refine hK _ ?_ | refine ⟨_, fun _ _ => rfl, hK _ ?_⟩); clear hK K)
        (refine wpQuiet_step (fun K hK => ?_); go_simp; (first | refine hK _ ?_ | refine ⟨_, fun _ _ => rfl, hK _ ?_⟩); clear hK K)
        refine wpQuiet_nil ?_
        intro w3 hb3
        obtain ⟨q0, q1, hb4⟩ := CC.out w3 hb3
        clear hb3 C0 CC q0
        go_wp2
        go_ret
        exact ⟨by rw [HE.out]; rfl, hb4⟩
      · have n3 := e
        have hx : (x == 104) = false := by simpa using e
        clear e
        go_wp2
        refine QTail.whole (fun W => Below (wr.heap.size + 1) (wr.alloc (.cells #[.int .u8 104, .int .i64 3600] 67)) W) (by kernel_rfl) (by kernel_rfl) (Below.refl _ _).drew ?_
        (refine wpQuiet_step (fun K hK => ?_); go_simp; (first | refine hK _ ?_ | refine ⟨_, fun _ _ => rfl, hK _ ?_⟩); clear hK K)
        refine cmpG (by rfl) .neq 9 _ (.tmp 9) _ rfl (.string T) (.string ⟨#[]⟩) rfl rfl true (eqgT _ _ _ _ _ _) (fun W _ => HN.out W) ?_
        (refine wpQuiet_step (fun K hK => ?_); go_simp; (first | refine hK _ ?_ | refine ⟨_, fun _ _ => rfl, hK _ ?_⟩); clear hK K)
        (refine wpQuiet_step (fun K hK => ?_); go_simp; (first | refine hK _ ?_ | refine ⟨_, fun _ _ => rfl, hK _ ?_⟩); clear hK K)
        (refine wpQuiet_step (fun K hK => ?_); go_simp; (first | refine hK _ ?_ | refine ⟨_, fun _ _ => rfl, hK _ ?_⟩); clear hK K)
        (refine wpQuiet_step (fun K hK => ?_); go_simp; refine ⟨.pointer (some ⟨wr.heap.size, 0, none⟩), fun W hW => ?_, hK _ ?_⟩; (first | (rw [if_pos (by omega)]; exact ⟨rfl, rfl⟩) | (rw [if_pos (by omega)]; rfl) | exact ⟨rfl, rfl⟩ | rfl); clear hK K)
        (refine wpQuiet_step (fun K hK => ?_); go_simp; refine ⟨(.int .u8 104), fun W hW => ?_, hK _ ?_⟩; (first | (rw [C0.out W hW]; exact ⟨rfl, rfl⟩) | (rw [C0.out W hW]; rfl)); clear hK K)
        (refine wpQuiet_step (fun K hK => ?_); go_simp; (first | refine hK _ ?_ | refine ⟨_, fun _ _ => rfl, hK _ ?_⟩); clear hK K)
        (refine wpQuiet_step (fun K hK => ?_); go_simp; (first | refine hK _ ?_ | refine ⟨_, fun _ _ => rfl, hK _ ?_⟩); clear hK K)
        refine wpQuiet_nil ?_
        intro w3 hb3
        obtain ⟨q0, q1, hb4⟩ := CC.out w3 hb3
        clear hb3 C0 CC q0 q1 hi
        go_wp2
        go_roundw
        case rel => exact ⟨_, Lib.hid (.inr (.inr (.inr (.inl ⟨rfl, n1, n2, n3⟩)))), rfl, hb4⟩
        case measure => simp [intOf]
    · have ix := ix_us3
      have hi := HI.out
      have CC : Hid (∀ W, Below (wr.heap.size + 1) (wr.alloc (.cells #[.int .u8 100, .int .i64 86400] 67)) W → W.cell? ⟨wr.heap.size, 0, none⟩ = some (.int .u8 100) ∧ W.cell? ⟨wr.heap.size, 1, none⟩ = some (.int .i64 86400) ∧ Below w.heap.size w W) := Lib.hid (fun W h => by
        have hA := Hash.arr_new wr #[.int .u8 100, .int .i64 86400] 67
        exact ⟨(h.cell (by exact Nat.lt_succ_self _)).trans (hA.at_ (i := 0) rfl).1, (h.cell (by exact Nat.lt_succ_self _)).trans (hA.at_ (i := 1) rfl).1, Wire.bc hb ((Wire.b1 _ _).trans (h.mono (Nat.le_succ _)))⟩)
      have C0 : Hid (∀ W, Below (wr.heap.size + 1) (wr.alloc (.cells #[.int .u8 100, .int .i64 86400] 67)) W → W.cell? ⟨wr.heap.size, 0, none⟩ = some (.int .u8 100)) := Lib.hid (fun W h => (CC.out W h).1)
      by_cases e : x = 100
      · have HE := HR.out
        rw [if_neg n1, if_neg n2, if_neg n3, if_pos e] at HE
        have HE := Lib.hid HE
        clear HR
        subst e
        go_wp2
        refine QTail.whole (fun W => Below (wr.heap.size + 1) (wr.alloc (.cells #[.int .u8 100, .int .i64 86400] 67)) W) (by kernel_rfl) (by kernel_rfl) (Below.refl _ _).drew ?_
        (refine wpQuiet_step (fun K hK => ?_); go_simp; (first | refine hK _ ?_ | refine ⟨_, fun _ _ => rfl, hK _ ?_⟩); clear hK K)
        refine cmpG (by rfl) .neq 9 _ (.tmp 9) _ rfl (.string T) (.string ⟨#[]⟩) rfl rfl true (eqgT _ _ _ _ _ _) (fun W _ => HN.out W) ?_
        (refine wpQuiet_step (fun K hK => ?_); go_simp; (first | refine hK _ ?_ | refine ⟨_, fun _ _ => rfl, hK _ ?_⟩); clear hK K)
        (refine wpQuiet_step (fun K hK => ?_); go_simp; (first | refine hK _ ?_ | refine ⟨_, fun _ _ => rfl, hK _ ?_⟩); clear hK K)
        (refine wpQuiet_step (fun K hK => ?_); go_simp; (first | refine hK _ ?_ | refine ⟨_, fun _ _ => rfl, hK _ ?_⟩); clear hK K)
        (refine wpQuiet_step (fun K hK => ?_); go_simp; refine ⟨.pointer (some ⟨wr.heap.size, 0, none⟩), fun W hW => ?_, hK _ ?_⟩; (first | (rw [if_pos (by omega)]; exact ⟨rfl, rfl⟩) | (rw [if_pos (by omega)]; rfl) | exact ⟨rfl, rfl⟩ | rfl); clear hK K)
        (refine wpQuiet_step (fun K hK => ?_); go_simp; refine ⟨(.int .u8 100), fun W hW => ?_, hK _ ?_⟩; (first | (rw [C0.out W hW]; exact ⟨rfl, rfl⟩) | (rw [C0.out W hW]; rfl)); clear hK K)
        (refine wpQuiet_step (fun K hK => ?_); go_simp; (first | refine hK _ ?_ | refine ⟨_, fun _ _ => rfl, hK _ ?_⟩); clear hK K)
        (refine wpQuiet_step (fun K hK => ?_); go_simp; (first | refine hK _ ?_ | refine ⟨_, fun _ _ => rfl, hK _ ?_⟩); clear hK K)
        refine wpQuiet_nil ?_
        intro w3 hb3
        obtain ⟨q0, q1, hb4⟩ := CC.out w3 hb3
        clear hb3 C0 CC q0
        go_wp2
        go_ret
        exact ⟨by rw [HE.out]; rfl, hb4⟩
      · have n4 := e
        have hx : (x == 100) = false := by simpa using e
        clear e
        go_wp2
        refine QTail.whole (fun W => Below (wr.heap.size + 1) (wr.alloc (.cells #[.int .u8 100, .int .i64 86400] 67)) W) (by kernel_rfl) (by kernel_rfl) (Below.refl _ _).drew ?_
        (refine wpQuiet_step (fun K hK => ?_); go_simp; (first | refine hK _ ?_ | refine ⟨_, fun _ _ => rfl, hK _ ?_⟩); clear hK K)
        refine cmpG (by rfl) .neq 9 _ (.tmp 9) _ rfl (.string T) (.string ⟨#[]⟩) rfl rfl true (eqgT _ _ _ _ _ _) (fun W _ => HN.out W) ?_
        (refine wpQuiet_step (fun K hK => ?_); go_simp; (first | refine hK _ ?_ | refine ⟨_, fun _ _ => rfl, hK _ ?_⟩); clear hK K)
        (refine wpQuiet_step (fun K hK => ?_); go_simp; (first | refine hK _ ?_ | refine ⟨_, fun _ _ => rfl, hK _ ?_⟩); clear hK K)
        (refine wpQuiet_step (fun K hK => ?_); go_simp; (first | refine hK _ ?_ | refine ⟨_, fun _ _ => rfl, hK _ ?_⟩); clear hK K)
        (refine wpQuiet_step (fun K hK => ?_); go_simp; refine ⟨.pointer (some ⟨wr.heap.size, 0, none⟩), fun W hW => ?_, hK _ ?_⟩; (first | (rw [if_pos (by omega)]; exact ⟨rfl, rfl⟩) | (rw [if_pos (by omega)]; rfl) | exact ⟨rfl, rfl⟩ | rfl); clear hK K)
        (refine wpQuiet_step (fun K hK => ?_); go_simp; refine ⟨(.int .u8 100), fun W hW => ?_, hK _ ?_⟩; (first | (rw [C0.out W hW]; exact ⟨rfl, rfl⟩) | (rw [C0.out W hW]; rfl)); clear hK K)
        (refine wpQuiet_step (fun K hK => ?_); go_simp; (first | refine hK _ ?_ | refine ⟨_, fun _ _ => rfl, hK _ ?_⟩); clear hK K)
        (refine wpQuiet_step (fun K hK => ?_); go_simp; (first | refine hK _ ?_ | refine ⟨_, fun _ _ => rfl, hK _ ?_⟩); clear hK K)
        refine wpQuiet_nil ?_
        intro w3 hb3
        obtain ⟨q0, q1, hb4⟩ := CC.out w3 hb3
        clear hb3 C0 CC q0 q1 hi
        go_wp2
        go_roundw
        case rel => exact ⟨_, Lib.hid (.inr (.inr (.inr (.inr ⟨rfl, n1, n2, n3, n4⟩)))), rfl, hb4⟩
        case measure => simp [intOf]
    · have HE := HR.out
      rw [if_neg n1, if_neg n2, if_neg n3, if_neg n4] at HE
      have HE := Lib.hid HE
      go_wp2
      go_ret
      exact ⟨by first | rfl | (rw [HE.out]; rfl), hb⟩
theorem seconds_any (s : List UInt8) (hl : s.length ≤ 1048576) (w : World) (hu : Units w) : Calls Tryd.prog 48 #[.string ⟨s.toArray⟩] w (fun e w' => e = .returned (.int .i64 (unit (hd s) : Int)) ∧ Below w.heap.size w w') := by
  cases s with
  | nil => exact seconds_nil w hu
  | cons c r => exact seconds_cons c r (by rw [List.length_cons] at hl; omega) w hu
end Lx
end Go.Proofs.YtjijlepkcghmeaaDoor
