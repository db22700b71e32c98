/- DigE; MSame: what each of these parts proves stands ahead of it. -/
import Derived.Test.YthpkeaafgabjiaaDoorM8
import Derived.Stop.BytesEq
import Derived.Test.YthpkeaafgabjiaaDoorM9
/- Digests compared. Condition: they have 16 bytes. -/
namespace Go.Proofs.YthpkeaafgabjiaaDoor
open Go.RowKit
namespace Mk
open Wire (bv)

theorem byte_sizeOf (w : World) : (sizeOf 5).run Tryd.prog w = .ok 1 w := by kernel_rfl
theorem eq_d (x y : List UInt8) (hx : x.length = 16) (hy : y.length = 16) (W : World) : (Op.equalIn 10000 29 (.agg (x.map bv).toArray) (.agg (y.map bv).toArray)).run Tryd.prog W = .ok (x == y) W :=
  run_equalIn_bytes W 9998 29 5 16 Tryd.underlying29 Tryd.underlying5 byte_sizeOf x y hx hy
theorem neq_d (x y : List UInt8) (hx : x.length = 16) (hy : y.length = 16) (W : World) : (binOp .neq 29 (.agg (x.map bv).toArray) (.agg (y.map bv).toArray)).run Tryd.prog W = .ok (.bool (!(x == y))) W := by
  rw [run_neq_struct, eq_d x y hx hy W]; rfl
theorem eql_d (x y : List UInt8) (hx : x.length = 16) (hy : y.length = 16) (W : World) : (binOp .eql 29 (.agg (x.map bv).toArray) (.agg (y.map bv).toArray)).run Tryd.prog W = .ok (.bool (x == y)) W := by
  rw [run_eql_struct, eq_d x y hx hy W]; rfl
end Mk
end Go.Proofs.YthpkeaafgabjiaaDoor

/- The reference of package merkle: Same; digests compared. Condition: the slices read as lists of digests. -/
namespace Go.Proofs.YthpkeaafgabjiaaDoor
open Go.RowKit
namespace Mk
open Wire (bv sv Lies)
open Hash (bcj)

/-- A bool is returned; the memory that was there is as it was. -/
def GivesT (b : Bool) (w : World) (e : Ending) (w' : World) : Prop := e = .returned (.bool b) ∧ Below w.heap.size w w'
set_option maxRecDepth 100000 in
set_option maxHeartbeats 1000000 in
theorem refSame_any (l m : List (List UInt8)) (n c k d : Nat) (A B : Option Addr) (w : World) (hl : LiesD w w.heap.size A n c l) (hm : LiesD w w.heap.size B k d m) :
    Calls Tryd.prog 15 #[.slice A n c, .slice B k d] w (GivesT (decide (l = m)) w) := by
  have hln := hl.len
  have hmn := hm.len
  have hmost : c ≤ 9223372036854775807 := by have := hl.lies.most; unfold maxLen at this; omega
  have hmost2 : d ≤ 9223372036854775807 := by have := hm.lies.most; unfold maxLen at this; omega
  have hle := hl.lies.le
  have hle2 := hm.lies.le
  by_cases hnk : n = k
  · subst hnk
    have HLN := Lib.hid hln
    have HMN := Lib.hid hmn
    have HL := Lib.hid hl
    have HM := Lib.hid hm
    obtain ⟨R, hR⟩ : ∃ R, R = decide (l = m) := ⟨_, rfl⟩
    rw [← hR]
    have HR := Lib.hid hR
    clear hl hm hln hmn hR
    go_enter Tryd.func15, Tryd.ntmps15
    go_wp2
    go_loopw [5] (fun iv wr => ∃ (i : Nat), i ≤ n ∧ iv = .int .i64 (i : Int) ∧ Hid (l.take i = m.take i) ∧ Below w.heap.size w wr) (fun iv _ => (n - intOf iv).toNat)
    case atStart => exact ⟨0, by omega, rfl, Lib.hid (by simp), Below.refl _ _⟩
    case round =>
      obtain ⟨i, hi, rfl, HT, hbw⟩ := hrel
      by_cases hlt : i < n
      · obtain ⟨x, hx⟩ : ∃ x, l[i]? = some x := ⟨_, List.getElem?_eq_getElem (by rw [HLN.out]; exact hlt)⟩
        obtain ⟨y, hy⟩ : ∃ y, m[i]? = some y := ⟨_, List.getElem?_eq_getElem (by rw [HMN.out]; exact hlt)⟩
        obtain ⟨b, o, rfl, hb, hrx⟩ := (HL.out.on hbw).row hx
        obtain ⟨b2, o2, rfl, hb2, hry⟩ := (HM.out.on hbw).row hy
        have hxl := HL.out.ok.at_ hx
        have hyl := HM.out.ok.at_ hy
        have CX : Hid (∀ W, Below wr.heap.size wr W → W.rangeAt b (o + i * 16) (x.map bv)) := Lib.hid (fun W h j u hu => (h.cell (by show b < wr.heap.size; exact hb)).trans (hrx j u hu))
        have CY : Hid (∀ W, Below wr.heap.size wr W → W.rangeAt b2 (o2 + i * 16) (y.map bv)) := Lib.hid (fun W h j u hu => (h.cell (by show b2 < wr.heap.size; exact hb2)).trans (hry j u hu))
        have HNE' : Hid (∀ W, Below wr.heap.size wr W → (Op.equalIn 10000 29 (.agg (x.map bv).toArray) (.agg (y.map bv).toArray)).run Tryd.prog W = .ok (x == y) W) := Lib.hid (fun W _ => eq_d x y hxl hyl W)
        have HX := Lib.hid hx
        have HY := Lib.hid hy
        have HXL := Lib.hid hxl
        have HYL := Lib.hid hyl
        have z0 : (0 : Int) ≤ (i : Int) := by omega
        have z1 : (i : Int) < (n : Int) := by omega
        clear hx hy hrx hry hxl hyl
        go_wp2
        refine QTail.whole (fun W => Below wr.heap.size wr W) (by kernel_rfl) (by kernel_rfl) (Below.refl _ _).drew ?_
        (refine wpQuiet_step (fun K hK => ?_); go_simp; (first | refine hK _ ?_ | refine ⟨_, fun _ _ => rfl, hK _ ?_⟩); clear hK K)
        (refine wpQuiet_step (fun K hK => ?_); go_simp; (first | refine hK _ ?_ | refine ⟨_, fun _ _ => rfl, hK _ ?_⟩); clear hK K)
        (refine wpQuiet_step (fun K hK => ?_); go_simp; refine ⟨.pointer (some ⟨b, o + i * 16, none⟩), fun W hW => ?_, hK _ ?_⟩; (first | (rw [if_pos (by omega)]; exact ⟨rfl, rfl⟩) | (rw [if_pos (by omega)]; rfl) | exact ⟨rfl, rfl⟩ | rfl); clear hK K)
        refine QTail.loadC (by rfl) 29 (.tmp 19) rfl b (o + i * 16) rfl (x.map bv) _ CX.out und_d rfl (info_d HXL.out) ?_
        (refine wpQuiet_step (fun K hK => ?_); go_simp; (first | refine hK _ ?_ | refine ⟨_, fun _ _ => rfl, hK _ ?_⟩); clear hK K)
        (refine wpQuiet_step (fun K hK => ?_); go_simp; (first | refine hK _ ?_ | refine ⟨_, fun _ _ => rfl, hK _ ?_⟩); clear hK K)
        (refine wpQuiet_step (fun K hK => ?_); go_simp; refine ⟨.pointer (some ⟨b2, o2 + i * 16, none⟩), fun W hW => ?_, hK _ ?_⟩; (first | (rw [if_pos (by omega)]; exact ⟨rfl, rfl⟩) | (rw [if_pos (by omega)]; rfl) | exact ⟨rfl, rfl⟩ | rfl); clear hK K)
        refine QTail.loadC (by rfl) 29 (.tmp 23) rfl b2 (o2 + i * 16) rfl (y.map bv) _ CY.out und_d rfl (info_d HYL.out) ?_
        (refine wpQuiet_step (fun K hK => ?_); go_simp; refine ⟨.bool (!(x == y)), fun W hW => ?_, hK _ ?_⟩; (first | (rw [HNE'.out W hW]; exact ⟨rfl, rfl⟩) | (rw [HNE'.out W hW]; rfl)); clear hK K)
        refine wpQuiet_nil ?_
        intro w3 hq
        by_cases he : x = y
        · subst he
          have h1 : (x == x) = true := by simp
          have HS : Hid (l.take (i + 1) = m.take (i + 1)) := Lib.hid (by rw [List.take_add_one, List.take_add_one, HT.out, HX.out, HY.out])
          rw [h1]
          go_wp2
          go_roundw
          case rel => exact ⟨i + 1, by omega, by go_num, HS, hbw.trans (hq.mono hbw.size)⟩
          case measure => simp [intOf]; omega
        · have h1 : (x == y) = false := by simpa using he
          have hlm : R = false := by
            rw [HR.out]
            refine decide_eq_false (fun e => he ?_)
            have := HX.out
            rw [e, HY.out] at this
            exact (Option.some.inj this).symm
          subst hlm
          rw [h1]
          clear he
          go_wp2
          go_ret
          exact ⟨rfl, hbw.trans (hq.mono hbw.size)⟩
      · obtain rfl : i = n := by omega
        have z1 : ¬ (i : Int) < (i : Int) := by omega
        have hlm : R = true := by
          have h := HT.out
          rw [List.take_of_length_le (by rw [HLN.out]; omega), List.take_of_length_le (by rw [HMN.out]; omega)] at h
          rw [HR.out, decide_eq_true h]
        subst hlm
        go_wp2
        go_ret
        exact ⟨rfl, hbw⟩
  · have hne : l ≠ m := fun e => hnk (by rw [← hln, ← hmn, e])
    rw [decide_eq_false hne]
    have y0 : ¬ (n : Int) = (k : Int) := by omega
    clear hl hm hln hmn hne
    go_enter Tryd.func15, Tryd.ntmps15
    go_wp2
    go_ret
    exact ⟨rfl, Below.refl _ _⟩
end Mk
end Go.Proofs.YthpkeaafgabjiaaDoor

