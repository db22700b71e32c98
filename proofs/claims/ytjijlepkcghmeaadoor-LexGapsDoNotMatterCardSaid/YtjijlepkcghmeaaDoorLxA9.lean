/- Package lex: skip, token. Condition: the text is of at most 2^20 bytes; the table of units is laid. -/
import Derived.Test.YtjijlepkcghmeaaDoorLxA8
namespace Go.Proofs.YtjijlepkcghmeaaDoor
open Go.RowKit
namespace Lx
open Wire (bv sv)
open Hash (Arr)

/-- A number is returned; the memory that was there is as it was. -/
def GivesI (n : Nat) (w : World) (e : Ending) (w' : World) : Prop := e = .returned (.int .i64 (n : Int)) ∧ Below w.heap.size w w'

/-- run at skip's closure. -/
theorem runSkip_any (t : List UInt8) (hl : t.length ≤ 1048576) (i : Nat) (hi : i ≤ t.length) (w : World) :
    Calls Tryd.prog 24 #[.string ⟨t.toArray⟩, .int .i64 (i : Int), .func (.func 25) #[] #[.pointer (some ⟨w.heap.size, 0, none⟩), .pointer (some ⟨w.heap.size + 1, 0, none⟩)]]
      ((w.alloc (.cells #[.string ⟨t.toArray⟩] 9)).alloc (.cells #[.bool false] 4))
      (fun e w' => e = .returned (.int .i64 (((t.length - (skip false (t.drop i)).length : Nat)) : Int)) ∧ Below w.heap.size w w') := by
  obtain ⟨w0, hw0⟩ : ∃ w0, w0 = w.alloc (.cells #[.string ⟨t.toArray⟩] 9) := ⟨_, rfl⟩
  have hsz : w0.heap.size = w.heap.size + 1 := by rw [hw0, World.size_alloc]
  have h1 := (Hash.arr_new w #[.string ⟨t.toArray⟩] 9).at_ (i := 0) rfl
  have hz : Below w.heap.size w w0 := by rw [hw0]; exact Wire.b1 _ _
  rw [← hw0] at h1 ⊢
  rw [← hsz]
  have hB : Bx w0 (.bool false) (w0.alloc (.cells #[.bool false] 4)) := ⟨Hash.arr_new w0 #[.bool false] _, Wire.b1 _ _⟩
  refine (run_skip (fun W b => Bx w0 (.bool b) W) (goS t) t hl (.pointer (some ⟨w.heap.size, 0, none⟩)) (.pointer (some ⟨w0.heap.size, 0, none⟩)) (fun k b W hk h => cloS_any t w.heap.size w0 h1.1 k b W hk h) i false _ hi hB).mono fun e w' ⟨he, hw⟩ => ?_
  rw [runS t _ i false hi rfl] at he
  exact ⟨he, hz.trans (hw.z.mono (by omega))⟩
set_option maxRecDepth 100000 in
set_option maxHeartbeats 1000000 in
theorem skip_any (t : List UInt8) (hl : t.length ≤ 1048576) (i : Nat) (hi : i ≤ t.length) (w : World) :
    Calls Tryd.prog 17 #[.string ⟨t.toArray⟩, .int .i64 (i : Int)] w (GivesI (t.length - (skip false (t.drop i)).length) w) := by
  have HR := Lib.hid (runSkip_any t hl i hi w)
  generalize t.length - (skip false (t.drop i)).length = n at *
  generalize (⟨t.toArray⟩ : ByteArray) = T at *
  go_enter Tryd.func17, Tryd.ntmps17
  go_wp2_with (first
    | (go_at_call 24; (with_reducible refine HR.out.mono ?_); rintro e w1 ⟨rfl, hb⟩))
  go_ret
  exact ⟨rfl, hb⟩

theorem Rb.on {w W W' : World} {g : Nat} {k n i : Int} {x : ByteArray} (h : Rb w g k x n i W) (hb : Below W.heap.size W W') : Rb w g k x n i W' := ⟨h.r.below hb (h.r.size (by decide)), Wire.bc h.z hb⟩
/-- What token answers. -/
def tokV (t : List UInt8) (i : Nat) : Value × Nat :=
  match one (t.drop i) with
  | none => (zeroT, 3)
  | some (k, m, n) => if 1099511627776 < n then (zeroT, 2) else (tokv k ((t.drop i).take m) n i, 0)
theorem tokV_word {t : List UInt8} {i : Nat} (h : letter (hd (t.drop i)) = true) : tokV t i = (tokv 1 ((t.drop i).take (wlen (t.drop i))) 0 i, 0) := by
  unfold tokV one; rw [if_pos h]; rfl
theorem tokV_num {t : List UInt8} {i : Nat} (h : letter (hd (t.drop i)) = false) (h2 : digit (hd (t.drop i)) = true) : tokV t i = numV t i := by
  unfold tokV one numV
  rw [if_neg (by rw [h]; decide), if_pos h2]
  cases num (t.drop i) with
  | none => rfl
  | some p => rfl
theorem tokV_sgn {t : List UInt8} {i : Nat} (h : letter (hd (t.drop i)) = false) (h2 : digit (hd (t.drop i)) = false) (hs : ¬ sgn (t.drop i) = 0) : tokV t i = (tokv 3 ((t.drop i).take (sgn (t.drop i))) 0 i, 0) := by
  unfold tokV one
  rw [if_neg (by rw [h]; decide), if_neg (by rw [h2]; decide), if_neg hs]
  rfl
theorem tokV_none {t : List UInt8} {i : Nat} (h : letter (hd (t.drop i)) = false) (h2 : digit (hd (t.drop i)) = false) (hs : sgn (t.drop i) = 0) : tokV t i = (zeroT, 3) := by
  unfold tokV one
  rw [if_neg (by rw [h]; decide), if_neg (by rw [h2]; decide), if_pos hs]
theorem sgn_mark {s : List UInt8} (h : mark (hd s) = true) : sgn s = 1 := by
  unfold sgn
  rw [if_neg (fun e => by rw [e.1] at h; exact absurd h (by decide)), if_pos h]
theorem sgn_two {s : List UInt8} (h : hd s = 45 ∧ hd s.tail = 62) : sgn s = 2 := by unfold sgn; rw [if_pos h]
theorem sgn_zero {s : List UInt8} (h : ¬ mark (hd s) = true) (h2 : ¬ (hd s = 45 ∧ hd s.tail = 62)) : sgn s = 0 := by unfold sgn; rw [if_neg h2, if_neg h]
theorem numV_form (t : List UInt8) (i : Nat) : ∃ (k : Int) (x : ByteArray) (n p : Int) (e : Nat), numV t i = (.agg #[.int .i64 k, .string x, .int .i64 n, .int .i64 p], e) := by
  unfold numV
  cases num (t.drop i) with
  | none => exact ⟨0, ⟨#[]⟩, 0, 0, 3, rfl⟩
  | some q =>
    by_cases h : 1099511627776 < q.2
    · exact ⟨0, ⟨#[]⟩, 0, 0, 2, if_pos h⟩
    · exact ⟨2, _, _, _, 0, if_neg h⟩
theorem tail_drop (t : List UInt8) (i : Nat) : (t.drop i).tail = t.drop (i + 1) := by rw [List.tail_drop]

set_option maxRecDepth 100000 in
set_option maxHeartbeats 4000000 in
theorem token_any (t : List UInt8) (i : Nat) (hi : i < t.length) (hl : t.length ≤ 1048576) (w : World) (hu : Units w) :
    Calls Tryd.prog 18 #[.string ⟨t.toArray⟩, .int .i64 (i : Int)] w (GivesT2 (tokV t i) w) := by
  have hs := size_of t
  have ix := index_at t i hi
  have z0 : (i : Int) < (t.length : Int) := by omega
  have HL := Lib.hid (isLetter_any (hd (t.drop i)))
  have HD := Lib.hid (isDigit_any (hd (t.drop i)))
  have HS := Lib.hid (isSign_any (hd (t.drop i)))
  have HU := Lib.hid hu
  have HB : Hid (Rb w w.heap.size 0 ⟨#[]⟩ 0 0 (w.alloc (.cells #[.int .i64 0, .string ⟨#[]⟩, .int .i64 0, .int .i64 0] 36))) := Lib.hid ⟨Hash.arr_new w #[.int .i64 0, .string ⟨#[]⟩, .int .i64 0, .int .i64 0] _, Wire.b1 _ _⟩
  cases hle : letter (hd (t.drop i))
  · rw [hle] at HL
    cases hdi : digit (hd (t.drop i))
    · rw [hdi] at HD
      have HX : Hid (∀ m, (⟨t.toArray⟩ : ByteArray).extract i (i + m) = ⟨((t.drop i).take m).toArray⟩) := Lib.hid (ext_take t i)
      cases hm : mark (hd (t.drop i))
      · rw [hm] at HS
        have HP : Hid (∀ W, Calls Tryd.prog 32 #[.string ((⟨t.toArray⟩ : ByteArray).extract i t.length), .string ⟨#[45, 62]⟩] W (Is (.bool (decide (hd (t.drop i) = 45) && decide (hd (t.drop i).tail = 62))) W)) := Lib.hid (fun W => by
          have e := ext_take t i (t.length - i)
          rw [show i + (t.length - i) = t.length by omega, List.take_of_length_le (by rw [List.length_drop]; exact Nat.le_refl _)] at e
          rw [e]
          exact hasPrefix_any (t.drop i) W)
        by_cases h2 : hd (t.drop i) = 45 ∧ hd (t.drop i).tail = 62
        · have HV : Hid (tokV t i = (tokv 3 ((t.drop i).take 2) 0 i, 0)) := Lib.hid (by rw [tokV_sgn hle hdi (by rw [sgn_two h2]; decide), sgn_two h2])
          rw [show (decide (hd (t.drop i) = 45) && decide (hd (t.drop i).tail = 62)) = true by rw [decide_eq_true h2.1, decide_eq_true h2.2]; rfl] at HP
          have z1 : (i : Int) + 2 ≤ (t.length : Int) := by
            have e := h2.2
            rw [tail_drop] at e
            have := hd_drop (s := t) (k := i + 1) (by rw [e]; decide)
            omega
          have HE := Lib.hid (HX.out 2)
          clear hle hdi hm h2 HX
          generalize (t.drop i).take 2 = x at *
          generalize hd (t.drop i) = c at *
          generalize (⟨t.toArray⟩ : ByteArray) = T at *
          go_enter Tryd.func18, Tryd.ntmps18
          go_wp2_with (first
            | ((with_reducible refine Hash.at_slot 9 rfl ?_); refine genW (Pq := fun W => Rb w w.heap.size 0 ⟨#[]⟩ 0 0 W ∧ Units W) (G := fun W => wpList _ _ _ _ _ W) ⟨HB.out, HU.out.on HB.out.z⟩ ?_; clear HB; intro W1 YY; obtain ⟨Y, YU⟩ := YY)
            | (go_at_call 27; (with_reducible refine (HL.out _).mono ?_); rintro e w1 ⟨rfl, rfl⟩)
            | (go_at_call 29; (with_reducible refine (HD.out _).mono ?_); rintro e w1 ⟨rfl, rfl⟩)
            | (go_at_call 31; (with_reducible refine (HS.out _).mono ?_); rintro e w1 ⟨rfl, rfl⟩)
            | (go_at_call 32; (with_reducible refine (HP.out _).mono ?_); rintro e w1 ⟨rfl, rfl⟩)
            | (go_at_call 28; (with_reducible refine (HW.out _).mono ?_); rintro e w1 ⟨rfl, hb⟩; replace Y := Y.on hb)
            | (go_at_call 30; (with_reducible refine (HN.out _ YU).mono ?_); rintro e w1 ⟨rfl, hb⟩; replace Y := Y.on hb)
            | (refine store_k (.tmp 4) (.tmp 22) rfl rfl w.heap.size rfl k n p x rfl Y.r.there ?_; replace Y := Y.put (Nat.le_refl _) k n p x)
            | (refine store_k (.tmp 4) (.tmp 13) rfl rfl w.heap.size rfl 1 0 i _ rfl Y.r.there ?_; replace Y := Y.put (Nat.le_refl _) 1 0 i ⟨x.toArray⟩)
            | (refine store_k (.tmp 4) (.tmp 35) rfl rfl w.heap.size rfl 3 0 i _ rfl Y.r.there ?_; replace Y := Y.put (Nat.le_refl _) 3 0 i (T.extract i (i + 1)))
            | (refine store_k (.tmp 4) (.tmp 47) rfl rfl w.heap.size rfl 3 0 i _ rfl Y.r.there ?_; replace Y := Y.put (Nat.le_refl _) 3 0 i (T.extract i (i + 2)))
            | (refine store_k (.tmp 4) (.tmp 48) rfl rfl w.heap.size rfl 0 0 0 _ rfl Y.r.there ?_; replace Y := Y.put (Nat.le_refl _) 0 0 0 ⟨#[]⟩))
          rw [HE.out] at Y ⊢
          rw [HV.out]
          refine bodyPost_ret (v := .tuple #[tokv 3 x 0 i, .int .i64 0]) ?_ rfl ⟨rfl, Y.z⟩
          simp [results, Tryd.results18, asAddr]
          rw [load_k Y.r]
          rfl
        · have HV : Hid (tokV t i = (zeroT, 3)) := Lib.hid (tokV_none hle hdi (sgn_zero (by rw [hm]; decide) h2))
          rw [show (decide (hd (t.drop i) = 45) && decide (hd (t.drop i).tail = 62)) = false by simpa using h2] at HP
          clear hle hdi hm h2 HX
          generalize hd (t.drop i) = c at *
          generalize (⟨t.toArray⟩ : ByteArray) = T at *
          go_enter Tryd.func18, Tryd.ntmps18
          go_wp2_with (first
            | ((with_reducible refine Hash.at_slot 9 rfl ?_); refine genW (Pq := fun W => Rb w w.heap.size 0 ⟨#[]⟩ 0 0 W ∧ Units W) (G := fun W => wpList _ _ _ _ _ W) ⟨HB.out, HU.out.on HB.out.z⟩ ?_; clear HB; intro W1 YY; obtain ⟨Y, YU⟩ := YY)
            | (go_at_call 27; (with_reducible refine (HL.out _).mono ?_); rintro e w1 ⟨rfl, rfl⟩)
            | (go_at_call 29; (with_reducible refine (HD.out _).mono ?_); rintro e w1 ⟨rfl, rfl⟩)
            | (go_at_call 31; (with_reducible refine (HS.out _).mono ?_); rintro e w1 ⟨rfl, rfl⟩)
            | (go_at_call 32; (with_reducible refine (HP.out _).mono ?_); rintro e w1 ⟨rfl, rfl⟩)
            | (go_at_call 28; (with_reducible refine (HW.out _).mono ?_); rintro e w1 ⟨rfl, hb⟩; replace Y := Y.on hb)
            | (go_at_call 30; (with_reducible refine (HN.out _ YU).mono ?_); rintro e w1 ⟨rfl, hb⟩; replace Y := Y.on hb)
            | (refine store_k (.tmp 4) (.tmp 22) rfl rfl w.heap.size rfl k n p x rfl Y.r.there ?_; replace Y := Y.put (Nat.le_refl _) k n p x)
            | (refine store_k (.tmp 4) (.tmp 13) rfl rfl w.heap.size rfl 1 0 i _ rfl Y.r.there ?_; replace Y := Y.put (Nat.le_refl _) 1 0 i ⟨x.toArray⟩)
            | (refine store_k (.tmp 4) (.tmp 35) rfl rfl w.heap.size rfl 3 0 i _ rfl Y.r.there ?_; replace Y := Y.put (Nat.le_refl _) 3 0 i (T.extract i (i + 1)))
            | (refine store_k (.tmp 4) (.tmp 47) rfl rfl w.heap.size rfl 3 0 i _ rfl Y.r.there ?_; replace Y := Y.put (Nat.le_refl _) 3 0 i (T.extract i (i + 2)))
            | (refine store_k (.tmp 4) (.tmp 48) rfl rfl w.heap.size rfl 0 0 0 _ rfl Y.r.there ?_; replace Y := Y.put (Nat.le_refl _) 0 0 0 ⟨#[]⟩))
          rw [HV.out]
          refine bodyPost_ret (v := .tuple #[zeroT, .int .i64 3]) ?_ rfl ⟨rfl, Y.z⟩
          simp [results, Tryd.results18, asAddr]
          rw [load_k Y.r]
          rfl
      · rw [hm] at HS
        have HV : Hid (tokV t i = (tokv 3 ((t.drop i).take 1) 0 i, 0)) := Lib.hid (by rw [tokV_sgn hle hdi (by rw [sgn_mark hm]; decide), sgn_mark hm])
        have HE := Lib.hid (HX.out 1)
        clear hle hdi hm HX
        generalize (t.drop i).take 1 = x at *
        generalize hd (t.drop i) = c at *
        generalize (⟨t.toArray⟩ : ByteArray) = T at *
        go_enter Tryd.func18, Tryd.ntmps18
        go_wp2_with (first
          | ((with_reducible refine Hash.at_slot 9 rfl ?_); refine genW (Pq := fun W => Rb w w.heap.size 0 ⟨#[]⟩ 0 0 W ∧ Units W) (G := fun W => wpList _ _ _ _ _ W) ⟨HB.out, HU.out.on HB.out.z⟩ ?_; clear HB; intro W1 YY; obtain ⟨Y, YU⟩ := YY)
          | (go_at_call 27; (with_reducible refine (HL.out _).mono ?_); rintro e w1 ⟨rfl, rfl⟩)
          | (go_at_call 29; (with_reducible refine (HD.out _).mono ?_); rintro e w1 ⟨rfl, rfl⟩)
          | (go_at_call 31; (with_reducible refine (HS.out _).mono ?_); rintro e w1 ⟨rfl, rfl⟩)
          | (go_at_call 32; (with_reducible refine (HP.out _).mono ?_); rintro e w1 ⟨rfl, rfl⟩)
          | (go_at_call 28; (with_reducible refine (HW.out _).mono ?_); rintro e w1 ⟨rfl, hb⟩; replace Y := Y.on hb)
          | (go_at_call 30; (with_reducible refine (HN.out _ YU).mono ?_); rintro e w1 ⟨rfl, hb⟩; replace Y := Y.on hb)
          | (refine store_k (.tmp 4) (.tmp 22) rfl rfl w.heap.size rfl k n p x rfl Y.r.there ?_; replace Y := Y.put (Nat.le_refl _) k n p x)
          | (refine store_k (.tmp 4) (.tmp 13) rfl rfl w.heap.size rfl 1 0 i _ rfl Y.r.there ?_; replace Y := Y.put (Nat.le_refl _) 1 0 i ⟨x.toArray⟩)
          | (refine store_k (.tmp 4) (.tmp 35) rfl rfl w.heap.size rfl 3 0 i _ rfl Y.r.there ?_; replace Y := Y.put (Nat.le_refl _) 3 0 i (T.extract i (i + 1)))
          | (refine store_k (.tmp 4) (.tmp 47) rfl rfl w.heap.size rfl 3 0 i _ rfl Y.r.there ?_; replace Y := Y.put (Nat.le_refl _) 3 0 i (T.extract i (i + 2)))
          | (refine store_k (.tmp 4) (.tmp 48) rfl rfl w.heap.size rfl 0 0 0 _ rfl Y.r.there ?_; replace Y := Y.put (Nat.le_refl _) 0 0 0 ⟨#[]⟩))
        rw [HE.out] at Y ⊢
        rw [HV.out]
        refine bodyPost_ret (v := .tuple #[tokv 3 x 0 i, .int .i64 0]) ?_ rfl ⟨rfl, Y.z⟩
        simp [results, Tryd.results18, asAddr]
        rw [load_k Y.r]
        rfl
    · rw [hdi] at HD
      obtain ⟨k, x, n, p, e0, hR⟩ := numV_form t i
      have HV : Hid (tokV t i = (.agg #[.int .i64 k, .string x, .int .i64 n, .int .i64 p], e0)) := Lib.hid ((tokV_num hle hdi).trans hR)
      have HN : Hid (∀ W, Units W → Calls Tryd.prog 30 #[.string ⟨t.toArray⟩, .int .i64 (i : Int)] W (fun e w' => e = .returned (.tuple #[.agg #[.int .i64 k, .string x, .int .i64 n, .int .i64 p], .int .i64 (e0 : Int)]) ∧ Below W.heap.size W w')) := Lib.hid (fun W h => by
        have h2 := number_any t i hi hl W h
        rw [hR] at h2
        exact h2)
      clear hle hdi hR
      generalize hd (t.drop i) = c at *
      generalize (⟨t.toArray⟩ : ByteArray) = T at *
      go_enter Tryd.func18, Tryd.ntmps18
      go_wp2_with (first
        | ((with_reducible refine Hash.at_slot 9 rfl ?_); refine genW (Pq := fun W => Rb w w.heap.size 0 ⟨#[]⟩ 0 0 W ∧ Units W) (G := fun W => wpList _ _ _ _ _ W) ⟨HB.out, HU.out.on HB.out.z⟩ ?_; clear HB; intro W1 YY; obtain ⟨Y, YU⟩ := YY)
        | (go_at_call 27; (with_reducible refine (HL.out _).mono ?_); rintro e w1 ⟨rfl, rfl⟩)
        | (go_at_call 29; (with_reducible refine (HD.out _).mono ?_); rintro e w1 ⟨rfl, rfl⟩)
        | (go_at_call 31; (with_reducible refine (HS.out _).mono ?_); rintro e w1 ⟨rfl, rfl⟩)
        | (go_at_call 32; (with_reducible refine (HP.out _).mono ?_); rintro e w1 ⟨rfl, rfl⟩)
        | (go_at_call 28; (with_reducible refine (HW.out _).mono ?_); rintro e w1 ⟨rfl, hb⟩; replace Y := Y.on hb)
        | (go_at_call 30; (with_reducible refine (HN.out _ YU).mono ?_); rintro e w1 ⟨rfl, hb⟩; replace Y := Y.on hb)
        | (refine store_k (.tmp 4) (.tmp 22) rfl rfl w.heap.size rfl k n p x rfl Y.r.there ?_; replace Y := Y.put (Nat.le_refl _) k n p x)
        | (refine store_k (.tmp 4) (.tmp 13) rfl rfl w.heap.size rfl 1 0 i _ rfl Y.r.there ?_; replace Y := Y.put (Nat.le_refl _) 1 0 i ⟨x.toArray⟩)
        | (refine store_k (.tmp 4) (.tmp 35) rfl rfl w.heap.size rfl 3 0 i _ rfl Y.r.there ?_; replace Y := Y.put (Nat.le_refl _) 3 0 i (T.extract i (i + 1)))
        | (refine store_k (.tmp 4) (.tmp 47) rfl rfl w.heap.size rfl 3 0 i _ rfl Y.r.there ?_; replace Y := Y.put (Nat.le_refl _) 3 0 i (T.extract i (i + 2)))
        | (refine store_k (.tmp 4) (.tmp 48) rfl rfl w.heap.size rfl 0 0 0 _ rfl Y.r.there ?_; replace Y := Y.put (Nat.le_refl _) 0 0 0 ⟨#[]⟩))
      rw [HV.out]
      refine bodyPost_ret (v := .tuple #[.agg #[.int .i64 k, .string x, .int .i64 n, .int .i64 p], .int .i64 (e0 : Int)]) ?_ rfl ⟨rfl, Y.z⟩
      simp [results, Tryd.results18, asAddr]
      rw [load_k Y.r]
      rfl
  · rw [hle] at HL
    have HV := Lib.hid (tokV_word hle)
    have HW := Lib.hid (word_any t i hi hl)
    clear hle
    generalize (t.drop i).take (wlen (t.drop i)) = x at *
    generalize hd (t.drop i) = c at *
    generalize (⟨t.toArray⟩ : ByteArray) = T at *
    go_enter Tryd.func18, Tryd.ntmps18
    go_wp2_with (first
      | ((with_reducible refine Hash.at_slot 9 rfl ?_); refine genW (Pq := fun W => Rb w w.heap.size 0 ⟨#[]⟩ 0 0 W ∧ Units W) (G := fun W => wpList _ _ _ _ _ W) ⟨HB.out, HU.out.on HB.out.z⟩ ?_; clear HB; intro W1 YY; obtain ⟨Y, YU⟩ := YY)
      | (go_at_call 27; (with_reducible refine (HL.out _).mono ?_); rintro e w1 ⟨rfl, rfl⟩)
      | (go_at_call 29; (with_reducible refine (HD.out _).mono ?_); rintro e w1 ⟨rfl, rfl⟩)
      | (go_at_call 31; (with_reducible refine (HS.out _).mono ?_); rintro e w1 ⟨rfl, rfl⟩)
      | (go_at_call 32; (with_reducible refine (HP.out _).mono ?_); rintro e w1 ⟨rfl, rfl⟩)
      | (go_at_call 28; (with_reducible refine (HW.out _).mono ?_); rintro e w1 ⟨rfl, hb⟩; replace Y := Y.on hb)
      | (go_at_call 30; (with_reducible refine (HN.out _ YU).mono ?_); rintro e w1 ⟨rfl, hb⟩; replace Y := Y.on hb)
      | (refine store_k (.tmp 4) (.tmp 22) rfl rfl w.heap.size rfl k n p x rfl Y.r.there ?_; replace Y := Y.put (Nat.le_refl _) k n p x)
      | (refine store_k (.tmp 4) (.tmp 13) rfl rfl w.heap.size rfl 1 0 i _ rfl Y.r.there ?_; replace Y := Y.put (Nat.le_refl _) 1 0 i ⟨x.toArray⟩)
      | (refine store_k (.tmp 4) (.tmp 35) rfl rfl w.heap.size rfl 3 0 i _ rfl Y.r.there ?_; replace Y := Y.put (Nat.le_refl _) 3 0 i (T.extract i (i + 1)))
      | (refine store_k (.tmp 4) (.tmp 47) rfl rfl w.heap.size rfl 3 0 i _ rfl Y.r.there ?_; replace Y := Y.put (Nat.le_refl _) 3 0 i (T.extract i (i + 2)))
      | (refine store_k (.tmp 4) (.tmp 48) rfl rfl w.heap.size rfl 0 0 0 _ rfl Y.r.there ?_; replace Y := Y.put (Nat.le_refl _) 0 0 0 ⟨#[]⟩))
    rw [HV.out]
    refine bodyPost_ret (v := .tuple #[tokv 1 x 0 i, .int .i64 0]) ?_ rfl ⟨rfl, Y.z⟩
    simp [results, Tryd.results18, asAddr]
    rw [load_k Y.r]
    rfl
end Lx
end Go.Proofs.YtjijlepkcghmeaaDoor
