/- What the reference's comparison of digests returns. Condition: the slices' cells read as the two lists; a digest has sixteen bytes. -/
import Derived.Test.YtlpkiaeimcoplaaSame
import Derived.Test.YtlpkiaeimcoplaaListD
import Derived.Stop.BytesEq
namespace Go.Proofs.Ytlpkiaeimcoplaa
open Go.RowKit
namespace Wire

theorem quiet_load_mid {P : Program} {ops : Array Oper} {w : World} {Q : Act → Prop} {a : Act} {o : Oper} {rest : List Oper} (hgd : o.guard = none) (ty : TypeId) (x : Operand) (ho : o.op = .load ty x)
    (b off : Nat) (hx : a.eval x = .pointer (some ⟨b, off, none⟩)) (cs : List Value) (d : TypeDesc) (hc : w.rangeAt b off cs)
    (hu : P.underlying ty = some d) (hd : d.isRow = true) (hi : (P.info? ty).map (·.size) = some cs.length)
    (h : wpQuiet P ops (fun w' => ∃ n, w' = w.drewN n) Q rest (a.put o.dst (.agg cs.toArray))) : wpQuiet P ops (fun w' => ∃ n, w' = w.drewN n) Q (o :: rest) a := by
  have hw : Region.wanted o (yielded ops a.tmps) = true := by simp [Region.wanted, hgd]
  unfold wpQuiet
  rw [if_pos hw]
  refine ⟨.agg cs.toArray, ?_, h⟩
  rintro w' ⟨n, rfl⟩
  have hl := run_loadVar_mid (P := P) (w.drewN n) b off ty cs d (fun j v hv => by simpa using hc j v hv) hu hd hi
  unfold Oper.quietAt execOp
  simp only [ho, hx, Instr.loadAt, Instr.sureAddr, Sem.run_bind, Sem.run_pure, Result.andThen_ok, hl]
  exact ⟨rfl, rfl⟩
theorem byte_sizeOf (w : World) : (sizeOf 5).run Try.prog w = .ok 1 w := by kernel_rfl
theorem digCells_at : ∀ (xs : List (List UInt8)) (i : Nat) (x : List UInt8), (∀ y ∈ xs, y.length = 16) → xs[i]? = some x → ∀ (j : Nat) (v : Value), (x.map bv)[j]? = some v → (digCells xs)[i * 16 + j]? = some v
  | [], _, _, _, h => by simp at h
  | y :: r, i, x, hl, h => by
    intro j v hv
    have hy := hl y (by simp)
    have hc : digCells (y :: r) = y.map bv ++ digCells r := by simp [digCells]
    cases i with
    | zero =>
      simp only [List.getElem?_cons_zero, Option.some.injEq] at h
      subst h
      have hj : j < (y.map bv).length := (List.getElem?_eq_some_iff.1 hv).1
      rw [hc, Nat.zero_mul, Nat.zero_add, List.getElem?_append_left hj]; exact hv
    | succ i =>
      rw [hc, List.getElem?_append_right (by rw [List.length_map, hy]; omega), List.length_map, hy, show (i + 1) * 16 + j - 16 = i * 16 + j by omega]
      exact digCells_at r i x (fun z hz => hl z (by simp [hz])) (by simpa using h) j v hv
theorem dig_range {w : World} {b o i k : Nat} {xs : List (List UInt8)} {x : List UInt8} (hl : ∀ y ∈ xs, y.length = 16) (hx : xs[i]? = some x) (hc : ∀ (j : Nat) (u : Value), (digCells xs)[j]? = some u → w.cell? ⟨b, o + j, none⟩ = some u) :
    (w.drewN k).rangeAt b (o + i * 16) (x.map bv) := by
  intro j v hv
  show (w.drewN k).cell? _ = _
  have := hc (i * 16 + j) v (digCells_at xs i x hl hx j v hv)
  rw [Nat.add_assoc]
  simpa using this

set_option maxRecDepth 100000 in
set_option maxHeartbeats 1000000 in
theorem same_digs (xs ys : List (List UInt8)) (n m c d : Nat) (A E : Option Addr) (w : World) (B : Nat) (hx : Lies w B 16 A n c (digCells xs)) (hy : Lies w B 16 E m d (digCells ys)) (hnx : xs.length = n) (hny : ys.length = m) (h1 : ∀ x ∈ xs, x.length = 16) (h2 : ∀ x ∈ ys, x.length = 16) :
    Calls Try.prog 36 #[.slice A n c, .slice E m d] w (Told w (decide (xs = ys))) := by
  have hmx : c ≤ 9223372036854775807 := by have := hx.most; unfold maxLen at this; omega
  have hmy : d ≤ 9223372036854775807 := by have := hy.most; unfold maxLen at this; omega
  have hlx := hx.le
  have hly := hy.le
  by_cases hnm : n = m
  · subst hnm
    have HNX := Lib.hid hnx; clear hnx
    have HNY := Lib.hid hny; clear hny
    go_enter Try.func36, Try.ntmps36
    go_wp2
    go_loopw [5] (fun jv wr => ∃ (i q : Nat), i ≤ n ∧ jv = .int .i64 (i : Int) ∧ wr = w.drewN q ∧ xs.take i = ys.take i) (fun jv _ => (n - (intOf jv)).toNat)
    case atStart => exact ⟨0, 0, by omega, rfl, rfl, by simp⟩
    case round =>
      obtain ⟨i, q, hi, rfl, rfl, htk⟩ := hrel
      have HTK := Lib.hid htk; clear htk
      by_cases hlt : i < n
      · obtain ⟨b, o, rfl, -, hcx0⟩ := hx.cells (by omega)
        obtain ⟨b2, o2, rfl, -, hcy0⟩ := hy.cells (by omega)
        obtain ⟨x, hxx⟩ : ∃ x, xs[i]? = some x := ⟨xs[i]'(by rw [HNX.out]; exact hlt), List.getElem?_eq_getElem _⟩
        obtain ⟨y, hyy⟩ : ∃ y, ys[i]? = some y := ⟨ys[i]'(by rw [HNY.out]; exact hlt), List.getElem?_eq_getElem _⟩
        have hxl := h1 x (List.mem_of_getElem? hxx)
        have hyl := h2 y (List.mem_of_getElem? hyy)
        have hrx : (w.drewN q).rangeAt b (o + i * 16) (x.map bv) := (dig_range (k := q) h1 hxx hcx0 : (w.drewN q).rangeAt b (o + i * 16) (x.map bv))
        have hry : (w.drewN q).rangeAt b2 (o2 + i * 16) (y.map bv) := (dig_range (k := q) h2 hyy hcy0 : (w.drewN q).rangeAt b2 (o2 + i * 16) (y.map bv))
        have hneq : ∀ W : World, (binOp .neq 57 (.agg (x.map bv).toArray) (.agg (y.map bv).toArray)).run Try.prog W = .ok (.bool (!(x == y))) W := fun W => by
          have e : (Op.equalIn 10000 57 (.agg (x.map bv).toArray) (.agg (y.map bv).toArray)).run Try.prog W = .ok (x == y) W :=
            run_equalIn_bytes W 9998 57 5 16 Try.underlying57 Try.underlying5 byte_sizeOf x y hxl hyl
          rw [run_neq_struct, e]
          rfl
        have hu57 := Try.underlying57
        have hix : (Try.prog.info? 57).map (·.size) = some (x.map bv).length := by rw [List.length_map, hxl]; exact dig_size
        have hiy : (Try.prog.info? 57).map (·.size) = some (y.map bv).length := by rw [List.length_map, hyl]; exact dig_size
        have HXX := Lib.hid hxx; clear hxx
        have HYY := Lib.hid hyy; clear hyy
        clear hcx0 hcy0
        have hi0 : (0 : Int) ≤ (i : Int) := by omega
        have hi1 : (i : Int) < (n : Int) := by omega
        have HXL := Lib.hid hxl; clear hxl
        have HYL := Lib.hid hyl; clear hyl
        by_cases he : x = y
        · subst he
          have hq : (x == x) = true := by simp
          have hq2 : (!(x == x)) = false := by simp
          go_wp2
          refine wp_region_quiet_lit (by kernel_rfl) (by kernel_rfl) ?_
          iterate 3 (quiet_step (fail))
          refine quiet_load_mid rfl 57 (.tmp 19) rfl b (o + i * 16) rfl (x.map bv) _ hrx hu57 rfl hix ?_
          iterate 3 (quiet_step (fail))
          refine quiet_load_mid rfl 57 (.tmp 23) rfl b2 (o2 + i * 16) rfl (x.map bv) _ hry hu57 rfl hiy ?_
          quiet_step (fail)
          refine wpQuiet_nil ?_
          intro _ hw'
          obtain ⟨nq, hw''⟩ := hw'
          subst hw''
          go_wp2
          go_roundw
          case rel =>
            refine ⟨i + 1, _, by omega, by go_num, rfl, ?_⟩
            rw [List.take_add_one, List.take_add_one, HTK.out, HXX.out, HYY.out]
          case measure => simp [intOf]; omega
        · have hq : (x == y) = false := by simpa using he
          have hq2 : (!(x == y)) = true := by simpa using he
          have hfin : ∀ nq, Told w (decide (xs = ys)) (.returned (.bool false)) ((w.drewN q).drewN nq) := by
            intro nq
            rw [World.drewN_drewN]
            have hne : ¬ xs = ys := by
              intro e
              have h1 := HXX.out
              rw [e, HYY.out] at h1
              simp only [Option.some.injEq] at h1
              exact he h1.symm
            rw [decide_eq_false hne]
            exact ⟨rfl, _, rfl⟩
          have HF := Lib.hid hfin; clear hfin
          have HE := Lib.hid he; clear he
          go_wp2
          refine wp_region_quiet_lit (by kernel_rfl) (by kernel_rfl) ?_
          iterate 3 (quiet_step (fail))
          refine quiet_load_mid rfl 57 (.tmp 19) rfl b (o + i * 16) rfl (x.map bv) _ hrx hu57 rfl hix ?_
          iterate 3 (quiet_step (fail))
          refine quiet_load_mid rfl 57 (.tmp 23) rfl b2 (o2 + i * 16) rfl (y.map bv) _ hry hu57 rfl hiy ?_
          quiet_step (fail)
          refine wpQuiet_nil ?_
          intro _ hw'
          obtain ⟨nq, hw''⟩ := hw'
          subst hw''
          go_wp2
          go_ret
          exact HF.out _
      · obtain rfl : i = n := by omega
        have hfin : ∀ nq, Told w (decide (xs = ys)) (.returned (.bool true)) (w.drewN nq) := by
          intro nq
          have he : xs = ys := by
            have h1 := HTK.out
            rwa [List.take_of_length_le (by rw [HNX.out]; omega), List.take_of_length_le (by rw [HNY.out]; omega)] at h1
          rw [decide_eq_true he]
          exact ⟨rfl, _, rfl⟩
        have HF := Lib.hid hfin; clear hfin
        go_wp2
        go_ret
        exact HF.out _
  · have hne : ¬ xs = ys := by intro e; apply hnm; rw [← hnx, ← hny, e]
    have hnmi : ¬ (n : Int) = m := by omega
    have hfin : Told w (decide (xs = ys)) (.returned (.bool false)) w := by rw [decide_eq_false hne]; exact ⟨rfl, 0, rfl⟩
    have HF := Lib.hid hfin; clear hfin
    have HNE := Lib.hid hne; clear hne
    have HNX := Lib.hid hnx; clear hnx
    have HNY := Lib.hid hny; clear hny
    go_enter Try.func36, Try.ntmps36
    go_wp2
    go_ret
    exact HF.out

end Wire
end Go.Proofs.Ytlpkiaeimcoplaa
