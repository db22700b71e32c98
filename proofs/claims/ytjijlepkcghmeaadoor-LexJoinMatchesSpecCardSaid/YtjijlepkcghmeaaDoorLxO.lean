/- The reference of package lex: the token at an index. Condition: the text is of at most 2^20 bytes. -/
import Derived.Test.YtjijlepkcghmeaaDoorLxG
import Derived.Test.YtjijlepkcghmeaaDoorHArr
namespace Go.Proofs.YtjijlepkcghmeaaDoor
open Go.RowKit
namespace Lx
open Wire (bv sv)

/-- The cells of a token. -/
def tcell (k : Nat) (x : List UInt8) (n i : Nat) : List Value := [.int .i64 (k : Int), .string ⟨x.toArray⟩, .int .i64 (n : Int), .int .i64 (i : Int)]
def tokv (k : Nat) (x : List UInt8) (n i : Nat) : Value := .agg (tcell k x n i).toArray
/-- A token is returned; the memory that was there is as it was. -/
def GivesO (k : Nat) (x : List UInt8) (n i : Nat) (w : World) (e : Ending) (w' : World) : Prop := e = .returned (tokv k x n i) ∧ Below w.heap.size w w'
theorem ext_take (t : List UInt8) (i m : Nat) : (⟨t.toArray⟩ : ByteArray).extract i (i + m) = ⟨((t.drop i).take m).toArray⟩ := by
  apply ByteArray.ext
  rw [ByteArray.data_extract]
  apply Array.toList_inj.1
  rw [Array.toList_extract, List.extract_eq_take_drop, Nat.add_sub_cancel_left]
theorem load_tok (w : World) (T : TypeId) (k : Int) (x : ByteArray) (n i : Int) : (loadVar 36 ⟨w.heap.size, 0, none⟩).run Tryd.prog (w.alloc (.cells #[.int .i64 k, .string x, .int .i64 n, .int .i64 i] T)) = .ok (.agg #[.int .i64 k, .string x, .int .i64 n, .int .i64 i]) (w.alloc (.cells #[.int .i64 k, .string x, .int .i64 n, .int .i64 i] T)) :=
  run_loadVar_mid (P := Tryd.prog) _ w.heap.size 0 36 [.int .i64 k, .string x, .int .i64 n, .int .i64 i] _ (Hash.arr_new w #[.int .i64 k, .string x, .int .i64 n, .int .i64 i] T).range Tryd.underlying36 rfl (by kernel_rfl)

set_option maxRecDepth 100000 in
set_option maxHeartbeats 2000000 in
theorem refOne_word (t : List UInt8) (i : Nat) (hi : i < t.length) (hl : t.length ≤ 1048576) (w : World) (h : letter (hd (t.drop i)) = true) :
    Calls Tryd.prog 20 #[.string ⟨t.toArray⟩, .int .i64 (i : Int)] w (GivesO 1 ((t.drop i).take (wlen (t.drop i))) 0 i w) := by
  have ix := index_at t i hi
  have HL := Lib.hid (refLetter_any (hd (t.drop i)))
  rw [h] at HL
  have HW := Lib.hid (refWord_any t i (Nat.le_of_lt hi) hl)
  have hwl := wlen_le (t.drop i)
  rw [List.length_drop] at hwl
  generalize hd (t.drop i) = c at *
  generalize wlen (t.drop i) = m at *
  go_enter Tryd.func20, Tryd.ntmps20
  go_wp2_with (first
    | (go_at_call 33; (with_reducible refine (HL.out _).mono ?_); rintro e w1 ⟨rfl, rfl⟩)
    | (go_at_call 34; (with_reducible refine (HW.out _).mono ?_); rintro e w1 ⟨rfl, rfl⟩))
  rw [ext_take]
  refine bodyPost_ret (v := tokv 1 ((t.drop i).take m) 0 i) ?_ rfl ⟨rfl, Wire.b1 _ _⟩
  simp [results, Tryd.results20, asAddr]
  rw [load_tok]
  rfl
set_option maxRecDepth 100000 in
set_option maxHeartbeats 2000000 in
theorem refOne_num (t : List UInt8) (i m n : Nat) (hi : i < t.length) (hl : t.length ≤ 1048576) (w : World) (h : letter (hd (t.drop i)) = false) (h2 : digit (hd (t.drop i)) = true) (hn : num (t.drop i) = some (m, n)) (hm : 1 ≤ m) (hml : m ≤ (t.drop i).length) :
    Calls Tryd.prog 20 #[.string ⟨t.toArray⟩, .int .i64 (i : Int)] w (GivesO 2 ((t.drop i).take m) n i w) := by
  have ix := index_at t i hi
  have HL := Lib.hid (refLetter_any (hd (t.drop i)))
  have HD := Lib.hid (refDigit_any (hd (t.drop i)))
  rw [h] at HL
  rw [h2] at HD
  have HN := Lib.hid (refNumber_any t i hi hl)
  rw [show numR i (t.drop i) = (i + m, n) by unfold numR; rw [hn]] at HN
  rw [List.length_drop] at hml
  clear h h2 hn
  generalize hd (t.drop i) = c at *
  have hm0 : ¬ (m : Int) = 0 := by omega
  have hm1 : ((m : Int) == 0) = false := by simpa using hm0
  go_enter Tryd.func20, Tryd.ntmps20
  go_wp2_with (first
    | (go_at_call 33; (with_reducible refine (HL.out _).mono ?_); rintro e w1 ⟨rfl, rfl⟩)
    | (go_at_call 35; (with_reducible refine (HD.out _).mono ?_); rintro e w1 ⟨rfl, rfl⟩)
    | (go_at_call 36; (with_reducible refine (HN.out _).mono ?_); rintro e w1 ⟨rfl, rfl⟩))
  rw [ext_take]
  refine bodyPost_ret (v := tokv 2 ((t.drop i).take m) n i) ?_ rfl ⟨rfl, Wire.b1 _ _⟩
  simp [results, Tryd.results20, asAddr]
  rw [load_tok]
  rfl
set_option maxRecDepth 100000 in
set_option maxHeartbeats 2000000 in
theorem refOne_nonum (t : List UInt8) (i : Nat) (hi : i < t.length) (hl : t.length ≤ 1048576) (w : World) (h : letter (hd (t.drop i)) = false) (h2 : digit (hd (t.drop i)) = true) (hn : num (t.drop i) = none) :
    Calls Tryd.prog 20 #[.string ⟨t.toArray⟩, .int .i64 (i : Int)] w (GivesO 0 [] 0 0 w) := by
  have ix := index_at t i hi
  have HL := Lib.hid (refLetter_any (hd (t.drop i)))
  have HD := Lib.hid (refDigit_any (hd (t.drop i)))
  rw [h] at HL
  rw [h2] at HD
  have HN := Lib.hid (refNumber_any t i hi hl)
  rw [show numR i (t.drop i) = (i, 0) by unfold numR; rw [hn]] at HN
  clear h h2 hn
  generalize hd (t.drop i) = c at *
  go_enter Tryd.func20, Tryd.ntmps20
  go_wp2_with (first
    | (go_at_call 33; (with_reducible refine (HL.out _).mono ?_); rintro e w1 ⟨rfl, rfl⟩)
    | (go_at_call 35; (with_reducible refine (HD.out _).mono ?_); rintro e w1 ⟨rfl, rfl⟩)
    | (go_at_call 36; (with_reducible refine (HN.out _).mono ?_); rintro e w1 ⟨rfl, rfl⟩))
  refine bodyPost_ret (v := tokv 0 [] 0 0) ?_ rfl ⟨rfl, Wire.b1 _ _⟩
  simp [results, Tryd.results20, asAddr]
  rw [load_tok]
  rfl
set_option maxRecDepth 100000 in
set_option maxHeartbeats 2000000 in
theorem refOne_sign (t : List UInt8) (i : Nat) (hi : i < t.length) (hl : t.length ≤ 1048576) (w : World) (h : letter (hd (t.drop i)) = false) (h2 : digit (hd (t.drop i)) = false) (hm : 1 ≤ sgn (t.drop i)) (hml : sgn (t.drop i) ≤ (t.drop i).length) :
    Calls Tryd.prog 20 #[.string ⟨t.toArray⟩, .int .i64 (i : Int)] w (GivesO 3 ((t.drop i).take (sgn (t.drop i))) 0 i w) := by
  have ix := index_at t i hi
  have HL := Lib.hid (refLetter_any (hd (t.drop i)))
  have HD := Lib.hid (refDigit_any (hd (t.drop i)))
  rw [h] at HL
  rw [h2] at HD
  have HS := Lib.hid (refSign_any t i hi hl)
  rw [List.length_drop] at hml
  clear h h2
  generalize hd (t.drop i) = c at *
  generalize sgn (t.drop i) = m at *
  have hm0 : ¬ (m : Int) = 0 := by omega
  have hm1 : ((m : Int) == 0) = false := by simpa using hm0
  go_enter Tryd.func20, Tryd.ntmps20
  go_wp2_with (first
    | (go_at_call 33; (with_reducible refine (HL.out _).mono ?_); rintro e w1 ⟨rfl, rfl⟩)
    | (go_at_call 35; (with_reducible refine (HD.out _).mono ?_); rintro e w1 ⟨rfl, rfl⟩)
    | (go_at_call 37; (with_reducible refine (HS.out _).mono ?_); rintro e w1 ⟨rfl, rfl⟩))
  rw [ext_take]
  refine bodyPost_ret (v := tokv 3 ((t.drop i).take m) 0 i) ?_ rfl ⟨rfl, Wire.b1 _ _⟩
  simp [results, Tryd.results20, asAddr]
  rw [load_tok]
  rfl
set_option maxRecDepth 100000 in
set_option maxHeartbeats 2000000 in
theorem refOne_nosign (t : List UInt8) (i : Nat) (hi : i < t.length) (hl : t.length ≤ 1048576) (w : World) (h : letter (hd (t.drop i)) = false) (h2 : digit (hd (t.drop i)) = false) (hs : sgn (t.drop i) = 0) :
    Calls Tryd.prog 20 #[.string ⟨t.toArray⟩, .int .i64 (i : Int)] w (GivesO 0 [] 0 0 w) := by
  have ix := index_at t i hi
  have HL := Lib.hid (refLetter_any (hd (t.drop i)))
  have HD := Lib.hid (refDigit_any (hd (t.drop i)))
  rw [h] at HL
  rw [h2] at HD
  have HS := Lib.hid (refSign_any t i hi hl)
  rw [hs, Nat.add_zero] at HS
  clear h h2 hs
  generalize hd (t.drop i) = c at *
  go_enter Tryd.func20, Tryd.ntmps20
  go_wp2_with (first
    | (go_at_call 33; (with_reducible refine (HL.out _).mono ?_); rintro e w1 ⟨rfl, rfl⟩)
    | (go_at_call 35; (with_reducible refine (HD.out _).mono ?_); rintro e w1 ⟨rfl, rfl⟩)
    | (go_at_call 37; (with_reducible refine (HS.out _).mono ?_); rintro e w1 ⟨rfl, rfl⟩))
  refine bodyPost_ret (v := tokv 0 [] 0 0) ?_ rfl ⟨rfl, Wire.b1 _ _⟩
  simp [results, Tryd.results20, asAddr]
  rw [load_tok]
  rfl
theorem refOne_some (t : List UInt8) (i k m n : Nat) (hi : i < t.length) (hl : t.length ≤ 1048576) (w : World) (h : one (t.drop i) = some (k, m, n)) :
    Calls Tryd.prog 20 #[.string ⟨t.toArray⟩, .int .i64 (i : Int)] w (GivesO k ((t.drop i).take m) n i w) := by
  have hm := one_len h
  unfold one at h
  split at h
  · rename_i h1
    cases h
    exact refOne_word t i hi hl w h1
  · rename_i h1
    have h1' : letter (hd (t.drop i)) = false := by simpa using h1
    split at h
    · rename_i h2
      cases hn : num (t.drop i) with
      | none => rw [hn] at h; cases h
      | some p =>
        obtain ⟨m', n'⟩ := p
        rw [hn] at h
        cases h
        exact refOne_num t i _ _ hi hl w h1' h2 hn hm.1 hm.2
    · rename_i h2
      split at h
      · cases h
      · cases h
        exact refOne_sign t i hi hl w h1' (by simpa using h2) hm.1 hm.2
theorem refOne_none (t : List UInt8) (i : Nat) (hi : i < t.length) (hl : t.length ≤ 1048576) (w : World) (h : one (t.drop i) = none) :
    Calls Tryd.prog 20 #[.string ⟨t.toArray⟩, .int .i64 (i : Int)] w (GivesO 0 [] 0 0 w) := by
  unfold one at h
  split at h
  · cases h
  · rename_i h1
    have h1' : letter (hd (t.drop i)) = false := by simpa using h1
    split at h
    · rename_i h2
      cases hn : num (t.drop i) with
      | none => exact refOne_nonum t i hi hl w h1' h2 hn
      | some p => rw [hn] at h; cases h
    · rename_i h2
      split at h
      · rename_i h3
        exact refOne_nosign t i hi hl w h1' (by simpa using h2) h3
      · cases h
end Lx
end Go.Proofs.YtjijlepkcghmeaaDoor
