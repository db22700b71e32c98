/- The state of a block: load and State, of the package cipher. Conditions: those that each theorem names. -/
import Derived.Test.YtjepagbjoiipaaaCRound
namespace Go.Proofs.Ytjepagbjoiipaaa
open Go.RowKit
namespace Cha

theorem ext_drop (x : List UInt8) (j : Nat) : (⟨x.toArray⟩ : ByteArray).extract j x.length = ⟨(x.drop j).toArray⟩ := by
  apply ByteArray.ext
  rw [ByteArray.data_extract]
  apply Array.toList_inj.1
  rw [Array.toList_extract, List.extract_eq_take_drop]
  exact List.take_of_length_le (by simp)
theorem slice_from (x : List UInt8) (k : Nat) (hk : k ≤ x.length) (W : World) : (Instr.slice 9 (.string ⟨x.toArray⟩) (some (.int .i64 (k : Int))) none none).run Try.prog W = .ok (.string ⟨(x.drop k).toArray⟩) W := by
  have h := run_slice_string_from_if (P := Try.prog) W 9 ⟨x.toArray⟩ .i64 (k : Int) Try.underlying9
  rw [h]
  have hs := sizeS x
  simp [hs, hk]
  rw [← ext_drop]
theorem index_at (a : List UInt8) (k : Nat) (x : UInt8) (hx : a[k]? = some x) (W : World) : (Instr.index 9 (.string ⟨a.toArray⟩) (.int .i64 (k : Int))).run Try.prog W = .ok (.int .u8 (x.toNat : Int)) W := by
  have hk := (List.getElem?_eq_some_iff.1 hx).1
  have hs := sizeS a
  have hxx := (List.getElem?_eq_some_iff.1 hx).2
  rw [run_index_string (h := Try.underlying9)]
  rw [dif_pos ⟨by omega, by rw [hs]; omega⟩]
  rw [← hxx]
  rfl

/-- Four bytes' word in the walk's own words. -/
theorem word_steps {x : List UInt8} {k n : Nat} (hx : x.length = 4 * n) (hk : k < n) :
    ∃ (y : List UInt8) (x0 x1 x2 x3 : UInt8) (m1 m2 m3 n1 n2 v : Nat), x.drop (4 * k) = y ∧ y[0]? = some x0 ∧ y[1]? = some x1 ∧ y[2]? = some x2 ∧ y[3]? = some x3 ∧
      IntKind.u32.wrap ((x1.toNat : Int) * 256) = (m1 : Int) ∧ IntKind.u32.wrap ((x2.toNat : Int) * 65536) = (m2 : Int) ∧ IntKind.u32.wrap ((x3.toNat : Int) * 16777216) = (m3 : Int) ∧
      bits .or .u32 (x0.toNat : Int) (m1 : Int) = (n1 : Int) ∧ bits .or .u32 (n1 : Int) (m2 : Int) = (n2 : Int) ∧ bits .or .u32 (n2 : Int) (m3 : Int) = (v : Int) ∧ word x k = v := by
  obtain ⟨x0, h0⟩ : ∃ z, x[4 * k]? = some z := ⟨_, List.getElem?_eq_getElem (by omega)⟩
  obtain ⟨x1, h1⟩ : ∃ z, x[4 * k + 1]? = some z := ⟨_, List.getElem?_eq_getElem (by omega)⟩
  obtain ⟨x2, h2⟩ : ∃ z, x[4 * k + 2]? = some z := ⟨_, List.getElem?_eq_getElem (by omega)⟩
  obtain ⟨x3, h3⟩ : ∃ z, x[4 * k + 3]? = some z := ⟨_, List.getElem?_eq_getElem (by omega)⟩
  have g0 := x0.toNat_lt
  have g1 := x1.toNat_lt
  have g2 := x2.toNat_lt
  have g3 := x3.toNat_lt
  have l1 : x0.toNat ||| x1.toNat * 256 < 4294967296 := or_lt (by omega) (by omega)
  have l2 : (x0.toNat ||| x1.toNat * 256) ||| x2.toNat * 65536 < 4294967296 := or_lt l1 (by omega)
  refine ⟨_, x0, x1, x2, x3, x1.toNat * 256, x2.toNat * 65536, x3.toNat * 16777216, _, _, _, rfl, by rw [List.getElem?_drop]; exact h0, by rw [List.getElem?_drop]; exact h1, by rw [List.getElem?_drop]; exact h2, by rw [List.getElem?_drop]; exact h3,
    ?_, ?_, ?_, or32 (by omega) (by omega), or32 l1 (by omega), or32 l2 (by omega), ?_⟩
  · rw [IntKind.wrap_u32]; omega
  · rw [IntKind.wrap_u32]; omega
  · rw [IntKind.wrap_u32]; omega
  · simp only [word, List.getD_eq_getElem?_getD, h0, h1, h2, h3, Option.getD_some]

/-- The words of a text, of which k have been written at place o of an array. -/
def over (xs : List Value) (x : List UInt8) (o k : Nat) : List Value := xs.take o ++ ((words x k).map wv ++ xs.drop (o + k))
theorem over_zero (xs : List Value) (x : List UInt8) (o : Nat) : over xs x o 0 = xs := by simp [over, words]
theorem over_set {xs : List Value} (x : List UInt8) {o k : Nat} (h : o + k < xs.length) : (over xs x o k).set (o + k) (wv (word x k)) = over xs x o (k + 1) := by
  unfold over
  have h1 : (xs.take o).length = o := by rw [List.length_take]; omega
  have h2 : ((words x k).map wv).length = k := by rw [List.length_map, words_length]
  rw [List.set_append_right _ _ (by omega), h1, List.set_append_right _ _ (by omega), h2, show o + k - o - k = 0 by omega, List.drop_eq_getElem_cons h, List.set_cons_zero, words_succ, List.map_append, Nat.add_assoc]
  simp
structure LoadS (w W : World) (g : Nat) (xs : List Value) : Prop where
  arr : Arr W g 16 xs
  below : Below g w W
theorem LoadS.put {w W : World} {g o k : Nat} {xs : List Value} {x : List UInt8} (h : LoadS w W g (over xs x o k)) (hl : xs.length = 16) (hk : o + k < 16) : LoadS w (W.setCell ⟨g, o + k, none⟩ (wv (word x k))) g (over xs x o (k + 1)) := by
  have ha := h.arr.set (i := o + k) hk (wv (word x k))
  rw [over_set x (by omega)] at ha
  exact ⟨ha, h.below.setCell (by simp) _⟩
theorem LoadS.drew {w W : World} {g : Nat} {xs : List Value} (h : LoadS w W g xs) : LoadS w W.drew g xs := ⟨h.arr.drew 1, h.below.drew⟩

set_option maxRecDepth 100000 in
set_option maxHeartbeats 1000000 in
theorem load_any (xs : List Value) (x : List UInt8) (g o n c : Nat) (w : World) (hx : x.length = 4 * n) (ha : Arr w g 16 xs) (ho : o + n ≤ 16) :
    Calls Try.prog 19 #[.slice (some ⟨g, o, none⟩) n c, .string ⟨x.toArray⟩] w fun e w' => e = .returned (.tuple #[]) ∧ LoadS w w' g (over xs x o n) := by
  have hl := ha.len
  have S0 : LoadS w w g (over xs x o 0) := by rw [over_zero]; exact ⟨ha, Below.refl _ _⟩
  have HX := Lib.hid hx
  have HL := Lib.hid hl
  clear ha hx hl
  go_enter Try.func19, Try.ntmps19
  go_wp2
  go_loopw [8] (fun iv wr => ∃ (k : Nat), k ≤ n ∧ iv = .int .i64 (k : Int) ∧ LoadS w wr g (over xs x o k)) (fun iv _ => n - (intOf iv).toNat)
  case atStart => exact ⟨0, by omega, rfl, S0⟩
  case round =>
    obtain ⟨k, hk, rfl, hr⟩ := hrel
    clear S0
    by_cases hlt : k < n
    · obtain ⟨y, x0, x1, x2, x3, m1, m2, m3, n1, n2, v, hy, h0, h1, h2, h3, e1, e2, e3, o1, o2, o3, hv⟩ := word_steps HX.out hlt
      have hsl := fun W => slice_from x (4 * k) (by have := HX.out; omega) W
      rw [hy, show ((4 * k : Nat) : Int) = 4 * (k : Int) by omega] at hsl
      have i0 : ∀ W, (Instr.index 9 (.string ⟨y.toArray⟩) (.int .i64 0)).run Try.prog W = .ok (.int .u8 (x0.toNat : Int)) W := fun W => index_at y 0 x0 h0 W
      have i1 : ∀ W, (Instr.index 9 (.string ⟨y.toArray⟩) (.int .i64 1)).run Try.prog W = .ok (.int .u8 (x1.toNat : Int)) W := fun W => index_at y 1 x1 h1 W
      have i2 : ∀ W, (Instr.index 9 (.string ⟨y.toArray⟩) (.int .i64 2)).run Try.prog W = .ok (.int .u8 (x2.toNat : Int)) W := fun W => index_at y 2 x2 h2 W
      have i3 : ∀ W, (Instr.index 9 (.string ⟨y.toArray⟩) (.int .i64 3)).run Try.prog W = .ok (.int .u8 (x3.toNat : Int)) W := fun W => index_at y 3 x3 h3 W
      have hput := fun W (h : LoadS w W g (over xs x o k)) => h.put (x := x) HL.out (by omega)
      rw [hv] at hput
      have HP := Lib.hid hput
      obtain ⟨q1, q2⟩ := hr.drew.arr.some_ (i := o + k) (by omega)
      have z0 : (0 : Int) ≤ (k : Int) := by omega
      have z1 : (k : Int) < (n : Int) := by omega
      have z2 : n ≤ 16 := by omega
      have z3 : 4 * (k : Int) ≤ 64 := by omega
      have w0 := wrap_u8 x0
      have w1 := wrap_u8 x1
      have w2 := wrap_u8 x2
      have w3 := wrap_u8 x3
      have hr2 := hr.drew
      clear hput hv hy h0 h1 h2 h3 hr hlt hk ho
      go_wp2
      go_still_tail 20, (by kernel_rfl)
      change wpList _ _ _ _ _ wr.drew
      revert hr2 q1 q2
      generalize wr.drew = w2
      intro q1 q2 hr2
      obtain ⟨u, q1⟩ := q1
      go_wp2
      go_roundw
      case rel => exact ⟨k + 1, by omega, by go_num, HP.out _ hr2⟩
      case measure => simp [intOf]; omega
    · obtain rfl : k = n := by omega
      have z0 : ¬ (k : Int) < (k : Int) := by omega
      go_wp2
      go_end0
      exact ⟨rfl, hr⟩

end Cha
end Go.Proofs.Ytjepagbjoiipaaa
