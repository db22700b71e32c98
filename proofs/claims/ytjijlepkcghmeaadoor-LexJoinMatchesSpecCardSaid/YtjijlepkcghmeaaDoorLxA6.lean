/- Package lex: isSign, the sign of two characters, word. Condition: the text is of at most 2^20 bytes. -/
import Derived.Test.YtjijlepkcghmeaaDoorLxA5
namespace Go.Proofs.YtjijlepkcghmeaaDoor
open Go.RowKit
namespace Lx
open Wire (bv sv)
open Hash (Arr)

theorem mark_index (c : UInt8) : (0 ≤ Lib.indexByte [123, 125, 40, 41, 59, 44, 61] c) ↔ mark c = true := by
  have e : ∀ d : UInt8, (d == c) = (c == d) := fun d => Bool.eq_iff_iff.2 (by rw [beq_iff_eq, beq_iff_eq]; exact eq_comm)
  simp only [Lib.indexByte, mark, e]
  generalize (c == 123) = b1
  generalize (c == 125) = b2
  generalize (c == 40) = b3
  generalize (c == 41) = b4
  generalize (c == 59) = b5
  generalize (c == 44) = b6
  generalize (c == 61) = b7

  cases b1 <;> cases b2 <;> cases b3 <;> cases b4 <;> cases b5 <;> cases b6 <;> cases b7 <;> simp
set_option maxRecDepth 100000 in
set_option maxHeartbeats 1000000 in
theorem isSign_any (c : UInt8) (w : World) : Calls Tryd.prog 31 #[.int .u8 (c.toNat : Int)] w (Is (.bool (mark c)) w) := by
  have HI : Hid (∀ W, Calls Tryd.prog 49 #[.string ⟨#[123, 125, 40, 41, 59, 44, 61]⟩, .int .u8 (c.toNat : Int)] W fun e w' => e = .returned (.int .i64 (Lib.indexByte [123, 125, 40, 41, 59, 44, 61] c)) ∧ w' = W) := Lib.hid (fun W => by
    have h := Tryd.strings_IndexByte ⟨#[123, 125, 40, 41, 59, 44, 61]⟩ (c.toNat : Int) W
    rw [show ((c.toNat : Int)).toNat.toUInt8 = c by simp] at h
    exact h)
  have HM := Lib.hid (mark_index c)
  generalize Lib.indexByte [123, 125, 40, 41, 59, 44, 61] c = I at *
  generalize (c.toNat : Int) = x at *
  by_cases h : 0 ≤ I
  · rw [HM.out.1 h]
    go_enter Tryd.func31, Tryd.ntmps31
    go_wp2_with (first
      | (go_at_call 49; (with_reducible refine (HI.out _).mono ?_); rintro e w1 ⟨rfl, rfl⟩))
    go_ret
    exact ⟨by simp, rfl⟩
  · rw [show mark c = false by
      cases hm : mark c
      · rfl
      · exact absurd (HM.out.2 hm) h]
    go_enter Tryd.func31, Tryd.ntmps31
    go_wp2_with (first
      | (go_at_call 49; (with_reducible refine (HI.out _).mono ?_); rintro e w1 ⟨rfl, rfl⟩))
    go_ret
    exact ⟨by simp at h ⊢; omega, rfl⟩
theorem prefix_two (s : List UInt8) : Lib.hasPrefix s [45, 62] = (decide (hd s = 45) && decide (hd s.tail = 62)) := by
  have e : ∀ x y : UInt8, (y == x) = decide (x = y) := fun x y => by rw [Bool.eq_iff_iff, beq_iff_eq, decide_eq_true_iff]; exact eq_comm
  unfold Lib.hasPrefix
  match s with
  | [] => rfl
  | [a] => simp only [List.isPrefixOf, hd, List.tail_cons, e]; rfl
  | a :: b :: r => simp only [List.isPrefixOf, hd, List.tail_cons, e, Bool.and_true]; rfl
theorem hasPrefix_any (s : List UInt8) (W : World) : Calls Tryd.prog 32 #[.string ⟨s.toArray⟩, .string ⟨#[45, 62]⟩] W (Is (.bool (decide (hd s = 45) && decide (hd s.tail = 62))) W) := by
  have h := Tryd.strings_HasPrefix ⟨s.toArray⟩ ⟨#[45, 62]⟩ W
  rw [show (⟨s.toArray⟩ : ByteArray).data.toList = s from rfl, show (⟨#[45, 62]⟩ : ByteArray).data.toList = [45, 62] from rfl, prefix_two] at h
  exact h
/-- run at word's closure. -/
theorem runWord_any (t : List UInt8) (hl : t.length ≤ 1048576) (g i : Nat) (hi : i ≤ t.length) (W : World) (h0 : W.cell? ⟨g, 0, none⟩ = some (.string ⟨t.toArray⟩)) :
    Calls Tryd.prog 24 #[.string ⟨t.toArray⟩, .int .i64 (i : Int), .func (.func 45) #[] #[.pointer (some ⟨g, 0, none⟩)]] W (Is (.int .i64 ((i + wlen (t.drop i) : Nat) : Int)) W) := by
  refine (run_word (σ := Unit) (fun W2 _ => W2 = W) (goW t) t hl (.pointer (some ⟨g, 0, none⟩)) (fun k s W2 hk e => ?_) i () W hi rfl).mono fun e w' ⟨he, hw⟩ => ⟨?_, hw⟩
  · subst e
    exact (cloW_any t hl g k s _ hk h0).mono fun e w' ⟨he, hw⟩ => ⟨he, hw⟩
  · rw [he, runW t _ i hi rfl]
/-- A token's block is read. -/
theorem load_k {W : World} {g : Nat} {k n i : Int} {x : ByteArray} (h : Arr W g 4 [.int .i64 k, .string x, .int .i64 n, .int .i64 i]) : (loadVar 36 ⟨g, 0, none⟩).run Tryd.prog W = .ok (.agg #[.int .i64 k, .string x, .int .i64 n, .int .i64 i]) W :=
  run_loadVar_mid (P := Tryd.prog) _ g 0 36 [.int .i64 k, .string x, .int .i64 n, .int .i64 i] _ h.range Tryd.underlying36 rfl (by kernel_rfl)
section
variable {ops : Array Oper} {rest : List Oper} {o : Oper} {a : Act} {w : World} {Q : Exit → Act → World → Prop}
theorem store_k (x y : Operand) (ho : o.op = .store 36 x y) (hgd : o.guard = none) (g : Nat) (hx : a.eval x = .pointer (some ⟨g, 0, none⟩)) (k n i : Int) (b : ByteArray) (hy : a.eval y = .agg #[.int .i64 k, .string b, .int .i64 n, .int .i64 i]) (ht : w.there g 0 4)
    (h : wpList Tryd.prog ops Q rest (a.put o.dst undef) (w.setCells g 0 [.int .i64 k, .string b, .int .i64 n, .int .i64 i])) : wpList Tryd.prog ops Q (o :: rest) a w :=
  wpList_store_mid hgd 36 x y ho g 0 #[.int .i64 k, .string b, .int .i64 n, .int .i64 i] hx hy ht (by kernel_rfl) (by simp [Value.oneCell']) h
end
theorem genW {W' : World} {Pq G : World → Prop} (h : Pq W') (k : ∀ W, Pq W → G W) : G W' := k _ h
/-- The result's block, behind a world. -/
structure Rb (w : World) (g : Nat) (k : Int) (x : ByteArray) (n i : Int) (W : World) : Prop where
  r : Arr W g 4 [.int .i64 k, .string x, .int .i64 n, .int .i64 i]
  z : Below w.heap.size w W
theorem Rb.put {w W : World} {g : Nat} {k n i : Int} {x : ByteArray} (h : Rb w g k x n i W) (hg : w.heap.size ≤ g) (k' n' i' : Int) (x' : ByteArray) : Rb w g k' x' n' i' (W.setCells g 0 [.int .i64 k', .string x', .int .i64 n', .int .i64 i']) :=
  ⟨h.r.over rfl, h.z.trans (Hash.below_cells hg _ _ _)⟩

set_option maxRecDepth 100000 in
set_option maxHeartbeats 2000000 in
theorem word_any (t : List UInt8) (i : Nat) (hi : i < t.length) (hl : t.length ≤ 1048576) (w : World) :
    Calls Tryd.prog 28 #[.string ⟨t.toArray⟩, .int .i64 (i : Int)] w (GivesO 1 ((t.drop i).take (wlen (t.drop i))) 0 i w) := by
  have HRN := Lib.hid (fun g W h => runWord_any t hl g i (Nat.le_of_lt hi) W h)
  have hs := size_of t
  have hwl := wlen_le (t.drop i)
  rw [List.length_drop] at hwl
  have HE := Lib.hid (ext_take t i (wlen (t.drop i)))
  have z0 : (i : Int) ≤ (t.length : Int) := by omega
  have HB : Hid (Rb w (w.heap.size + 1) 0 ⟨#[]⟩ 0 0 ((w.alloc (.cells #[.string ⟨t.toArray⟩] 9)).alloc (.cells #[.int .i64 0, .string ⟨#[]⟩, .int .i64 0, .int .i64 0] 36)) ∧ ((w.alloc (.cells #[.string ⟨t.toArray⟩] 9)).alloc (.cells #[.int .i64 0, .string ⟨#[]⟩, .int .i64 0, .int .i64 0] 36)).cell? ⟨w.heap.size, 0, none⟩ = some (.string ⟨t.toArray⟩)) := Lib.hid (by
    have h1 := Hash.arr_new w #[.string ⟨t.toArray⟩] 9
    have h2 := Hash.arr_new (w.alloc (.cells #[.string ⟨t.toArray⟩] 9)) #[.int .i64 0, .string ⟨#[]⟩, .int .i64 0, .int .i64 0] 36
    have h3 := (h1.alloc (by rw [World.size_alloc]; exact Nat.lt_succ_self _) (.cells #[.int .i64 0, .string ⟨#[]⟩, .int .i64 0, .int .i64 0] 36)).at_ (i := 0) rfl
    rw [World.size_alloc] at h2
    exact ⟨⟨h2, Wire.bc (Wire.b1 _ _) (Wire.b1 _ _)⟩, h3.1⟩)
  generalize wlen (t.drop i) = m at *
  generalize (t.drop i).take m = x at *
  generalize (⟨t.toArray⟩ : ByteArray) = T at *
  go_enter Tryd.func28, Tryd.ntmps28
  go_wp2_with (first
    | ((with_reducible refine Hash.at_slot 6 rfl ?_); refine genW (Pq := fun W => Rb w (w.heap.size + 1) 0 ⟨#[]⟩ 0 0 W ∧ W.cell? ⟨w.heap.size, 0, none⟩ = some (.string T)) (G := fun W => wpList _ _ _ _ _ W) HB.out ?_; clear HB; intro W1 YY; obtain ⟨Y, h0⟩ := YY)
    | (go_at_call 24; (with_reducible refine (HRN.out _ _ h0).mono ?_); rintro e w1 ⟨rfl, rfl⟩)
    | (refine store_k (.tmp 4) (.tmp 15) rfl rfl (w.heap.size + 1) rfl 1 0 i _ rfl Y.r.there ?_; replace Y := Y.put (Nat.le_succ _) 1 0 i (T.extract i (i + m))))
  rw [HE.out] at Y ⊢
  refine bodyPost_ret (v := tokv 1 x 0 i) ?_ rfl ⟨rfl, Y.z⟩
  simp [results, Tryd.results28, asAddr, Act.put]
  rw [load_k Y.r]
  rfl
end Lx
end Go.Proofs.YtjijlepkcghmeaaDoor
