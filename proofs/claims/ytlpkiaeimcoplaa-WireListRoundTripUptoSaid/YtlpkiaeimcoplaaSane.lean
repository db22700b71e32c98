/- The examples that every statement of the layer checks: they hold. No condition. -/
import Derived.Test.YtlpkiaeimcoplaaEncD
namespace Go.Proofs.Ytlpkiaeimcoplaa
open Go.RowKit
namespace Wire

def dEx : List UInt8 := [1, 2, 0, 0, 0, 0, 0, 0, 0, 0, 0, 0, 0, 0, 0, 0]

theorem enc_m257 : enc (-257) = [125, 254, 255] := by simp [enc, magn, digs_pos, digs_zero, head, flip]
theorem enc_0 : enc 0 = [128] := by simp [enc, magn, digs_zero, head]
theorem enc_1 : enc 1 = [129, 1] := by simp [enc, magn, digs_pos, digs_zero, head, flip]
theorem enc_m1 : enc (-1) = [127] := by simp [enc, magn, digs_zero, head]
theorem enc_2 : enc 2 = [129, 2] := by simp [enc, magn, digs_pos, digs_zero, head, flip]
theorem ex1 : dec [130, 1, 0, 9] = .ok (256, 3) := by rfl
theorem ex2 : dec [130, 1] = .error 5 := by rfl
theorem ex3 : dec [129, 0] = .error 6 := by rfl
theorem ex4 : decStr [129, 2, 97, 98, 7] = .ok ([97, 98], 4) := by rfl
theorem ex5 : decList dec 1 [129, 2, 129, 1, 127] = .ok ([1, -1], 5) := by rfl
theorem ex6 : encList (fun d => d) [dEx] = [129, 1] ++ dEx := by simp [encList, enc_1]
theorem ex7 : decList decDig 16 ([129, 1] ++ dEx) = .ok ([dEx], 18) := by rfl
theorem ex8 : decList decStr 1 [129, 2, 128, 129, 1, 97, 5] = .ok ([[], [97]], 6) := by rfl
theorem ex9 : encList encStr [[], [97]] = [129, 2, 128, 129, 1, 97] := by simp [encList, encStr, enc_0, enc_1, enc_2]
theorem ex10 : encStr [97, 98] = [129, 2, 97, 98] := by simp [encStr, enc_2]
theorem ex11 : encList enc [1, -1] = [129, 2, 129, 1, 127] := by simp [encList, enc_1, enc_m1, enc_2]

theorem b1 (w : World) (o : Obj) : Below w.heap.size w (w.alloc o) := (Below.refl _ _).alloc (Nat.le_refl _) _
theorem bc {w w1 w2 : World} (h1 : Below w.heap.size w w1) (h2 : Below w1.heap.size w1 w2) : Below w.heap.size w w2 := h1.trans (h2.mono h1.size)
theorem bd (w : World) (k : Nat) : Below w.heap.size w (w.drewN k) := ⟨rfl, rfl, rfl, Nat.le_refl _, fun _ _ => rfl⟩
theorem Lies.on {w w' : World} {size n c : Nat} {A : Option Addr} {xs : List Value} (h : Lies w w.heap.size size A n c xs) (hb : Below w.heap.size w w') : Lies w' w'.heap.size size A n c xs := (h.below hb).more hb.size
theorem lies_lit (w : World) (cs : Array Value) (t : TypeId) (xs : List Value) (h : cs = xs.toArray) (hm : xs.length ≤ maxLen) :
    Lies (w.alloc (.cells cs t)) (w.alloc (.cells cs t)).heap.size 1 (some ⟨w.heap.size, 0, none⟩) xs.length xs.length xs := by
  subst h
  refine ⟨by simp, Nat.le_refl _, hm, fun _ => ⟨_, _, rfl⟩, fun _ => ⟨w.heap.size, 0, rfl, by rw [size_alloc]; omega, fun j u hu => ?_⟩⟩
  rw [Nat.zero_add]
  refine (cell_of_row (w.alloc (.cells xs.toArray t)) w.heap.size j xs.toArray t (0, 0) (heap_alloc_new w _)).trans ?_
  simpa using hu
theorem lies_lit16 (w : World) (cs : Array Value) (t : TypeId) (d : List UInt8) (h : cs = (d.map bv).toArray) (hd : d.length = 16) :
    Lies (w.alloc (.cells cs t)) (w.alloc (.cells cs t)).heap.size 16 (some ⟨w.heap.size, 0, none⟩) 1 1 (digCells [d]) := by
  subst h
  refine ⟨by simp [digCells, hd], Nat.le_refl _, by unfold maxLen; omega, fun _ => ⟨_, _, rfl⟩, fun _ => ⟨w.heap.size, 0, rfl, by rw [size_alloc]; omega, fun j u hu => ?_⟩⟩
  rw [Nat.zero_add]
  refine (cell_of_row (w.alloc (.cells (d.map bv).toArray t)) w.heap.size j (d.map bv).toArray t (0, 0) (heap_alloc_new w _)).trans ?_
  simpa [digCells] using hu

theorem getInts_ok {bs : List UInt8} {n c : Nat} {A : Option Addr} {w : World} {xs : List Int} {to : Nat} (hl : Lies w w.heap.size 1 A n c (bs.map bv)) (hbs : n ≤ 1099511627776) (h : decList dec 1 bs = .ok (xs, to)) :
    Calls Try.prog 28 #[.slice A n c] w fun e w' => ∃ g, e = .returned (.tuple #[.slice (some ⟨g, 0, none⟩) xs.length xs.length, .int .i64 (to : Int), .int .i64 0]) ∧
      w'.ownsRow w.heap.size 3 1 (.slice (some ⟨g, 0, none⟩) xs.length xs.length) xs.length (xs.map iv) ∧ Below w.heap.size w w' := by
  have := getInts_any bs n c A w hl hbs; rw [h] at this; exact this
theorem getStrings_ok {bs : List UInt8} {n c : Nat} {A : Option Addr} {w : World} {xs : List (List UInt8)} {to : Nat} (hl : Lies w w.heap.size 1 A n c (bs.map bv)) (hbs : n ≤ 1099511627776) (h : decList decStr 1 bs = .ok (xs, to)) :
    Calls Try.prog 31 #[.slice A n c] w fun e w' => ∃ g, e = .returned (.tuple #[.slice (some ⟨g, 0, none⟩) xs.length xs.length, .int .i64 (to : Int), .int .i64 0]) ∧
      w'.ownsRow w.heap.size 9 1 (.slice (some ⟨g, 0, none⟩) xs.length xs.length) xs.length (xs.map sv) ∧ Below w.heap.size w w' := by
  have := getStrings_any bs n c A w hl hbs; rw [h] at this; exact this
theorem getDigests_ok {bs : List UInt8} {n c : Nat} {A : Option Addr} {w : World} {xs : List (List UInt8)} {to : Nat} (hl : Lies w w.heap.size 1 A n c (bs.map bv)) (hbs : n ≤ 1099511627776) (h : decList decDig 16 bs = .ok (xs, to)) :
    Calls Try.prog 34 #[.slice A n c] w fun e w' => ∃ g, e = .returned (.tuple #[.slice (some ⟨g, 0, none⟩) xs.length xs.length, .int .i64 (to : Int), .int .i64 0]) ∧
      w'.ownsRow w.heap.size 57 16 (.slice (some ⟨g, 0, none⟩) xs.length xs.length) xs.length (digCells xs) ∧ Below w.heap.size w w' := by
  have := getDigests_any bs n c A w hl hbs; rw [h] at this; exact this

theorem few_le {n : Nat} (h : n ≤ 100) : n ≤ 1099511627776 := by omega

theorem c1 (W : World) : Calls Try.prog 24 #[.slice (some ⟨W.heap.size, 0, none⟩) 4 4] (W.alloc (.cells #[.int .u8 130, .int .u8 1, .int .u8 0, .int .u8 9] 5)) fun e w' => e = .returned (.tuple #[.int .i64 256, .int .i64 3, .int .i64 0]) ∧ Below W.heap.size W w' :=
  (get_ok (bs := [130, 1, 0, 9]) (lies_lit W #[.int .u8 130, .int .u8 1, .int .u8 0, .int .u8 9] 5 (([130, 1, 0, 9] : List UInt8).map bv) rfl (by unfold maxLen; decide)) ex1).mono fun e w' ⟨he, hw⟩ => ⟨he, by rw [← hw]; exact b1 W _⟩

theorem c2 (W : World) : Calls Try.prog 24 #[.slice (some ⟨W.heap.size, 0, none⟩) 2 2] (W.alloc (.cells #[.int .u8 130, .int .u8 1] 5)) fun e w' => e = .returned (.tuple #[.int .i64 0, .int .i64 0, .int .i64 5]) ∧ Below W.heap.size W w' :=
  (get_err (bs := [130, 1]) (lies_lit W #[.int .u8 130, .int .u8 1] 5 (([130, 1] : List UInt8).map bv) rfl (by unfold maxLen; decide)) ex2).mono fun e w' ⟨he, hw⟩ => ⟨he, by rw [← hw]; exact b1 W _⟩

theorem c3 (W : World) : Calls Try.prog 24 #[.slice (some ⟨W.heap.size, 0, none⟩) 2 2] (W.alloc (.cells #[.int .u8 129, .int .u8 0] 5)) fun e w' => e = .returned (.tuple #[.int .i64 0, .int .i64 0, .int .i64 6]) ∧ Below W.heap.size W w' :=
  (get_err (bs := [129, 0]) (lies_lit W #[.int .u8 129, .int .u8 0] 5 (([129, 0] : List UInt8).map bv) rfl (by unfold maxLen; decide)) ex3).mono fun e w' ⟨he, hw⟩ => ⟨he, by rw [← hw]; exact b1 W _⟩

theorem c4 (W : World) : Calls Try.prog 26 #[.slice (some ⟨W.heap.size, 0, none⟩) 5 5] (W.alloc (.cells #[.int .u8 129, .int .u8 2, .int .u8 97, .int .u8 98, .int .u8 7] 5)) fun e w' => e = .returned (.tuple #[.string ⟨#[97, 98]⟩, .int .i64 4, .int .i64 0]) ∧ Below W.heap.size W w' :=
  (str_ok (bs := [129, 2, 97, 98, 7]) (lies_lit W #[.int .u8 129, .int .u8 2, .int .u8 97, .int .u8 98, .int .u8 7] 5 (([129, 2, 97, 98, 7] : List UInt8).map bv) rfl (by unfold maxLen; decide)) ex4).mono fun e w' ⟨he, hw⟩ => ⟨he, by rw [← hw]; exact b1 W _⟩

theorem c5 (W : World) : Calls Try.prog 28 #[.slice (some ⟨W.heap.size, 0, none⟩) 5 5] (W.alloc (.cells #[.int .u8 129, .int .u8 2, .int .u8 129, .int .u8 1, .int .u8 127] 5)) fun e w' => ∃ g, e = .returned (.tuple #[.slice (some ⟨g, 0, none⟩) 2 2, .int .i64 5, .int .i64 0]) ∧ Lies w' w'.heap.size 1 (some ⟨g, 0, none⟩) 2 2 (([1, -1] : List Int).map iv) ∧ Below W.heap.size W w' :=
  (getInts_ok (bs := [129, 2, 129, 1, 127]) (lies_lit W #[.int .u8 129, .int .u8 2, .int .u8 129, .int .u8 1, .int .u8 127] 5 (([129, 2, 129, 1, 127] : List UInt8).map bv) rfl (by unfold maxLen; decide)) (few_le (by decide)) ex5).mono fun e w' ⟨g, he, ho, hb⟩ => ⟨g, he, lies_own ho, bc (b1 W _) hb⟩

theorem c8 (W : World) : Calls Try.prog 31 #[.slice (some ⟨W.heap.size, 0, none⟩) 7 7] (W.alloc (.cells #[.int .u8 129, .int .u8 2, .int .u8 128, .int .u8 129, .int .u8 1, .int .u8 97, .int .u8 5] 5)) fun e w' => ∃ g, e = .returned (.tuple #[.slice (some ⟨g, 0, none⟩) 2 2, .int .i64 6, .int .i64 0]) ∧ Lies w' w'.heap.size 1 (some ⟨g, 0, none⟩) 2 2 (([[], [97]] : List (List UInt8)).map sv) ∧ Below W.heap.size W w' :=
  (getStrings_ok (bs := [129, 2, 128, 129, 1, 97, 5]) (lies_lit W #[.int .u8 129, .int .u8 2, .int .u8 128, .int .u8 129, .int .u8 1, .int .u8 97, .int .u8 5] 5 (([129, 2, 128, 129, 1, 97, 5] : List UInt8).map bv) rfl (by unfold maxLen; decide)) (few_le (by decide)) ex8).mono fun e w' ⟨g, he, ho, hb⟩ => ⟨g, he, lies_own ho, bc (b1 W _) hb⟩

/-- A new slice of bytes that reads as the list. -/
def Rd (W : World) (n : Nat) (l : List UInt8) (e : Ending) (w' : World) : Prop :=
  ∃ g cap, e = .returned (.slice (some ⟨g, 0, none⟩) n cap) ∧ Lies w' w'.heap.size 1 (some ⟨g, 0, none⟩) n cap (l.map bv) ∧ Below W.heap.size W w'
theorem rd_of_made {W W0 : World} {n : Nat} {l l' : List UInt8} {e : Ending} {w' : World} (h : Made W l.length l e w') (hl : l = l') (hn : l'.length = n) (hb : Below W0.heap.size W0 W) : Rd W0 n l' e w' := by
  subst hl
  subst hn
  obtain ⟨g, cap, he, ho, hbw⟩ := h
  exact ⟨g, cap, he, lies_own ho, bc hb hbw⟩
/-- It is true; the memory that was there is as it was. -/
def Yes (W : World) (e : Ending) (w' : World) : Prop := e = .returned (.bool true) ∧ Below W.heap.size W w'
theorem yes_of {W W0 : World} {b : Bool} {e : Ending} {w' : World} (h : Told W b e w') (hb : b = true) (h0 : Below W0.heap.size W0 W) : Yes W0 e w' := by
  obtain ⟨he, k, rfl⟩ := h
  exact ⟨by rw [he, hb], bc h0 (bd W k)⟩

theorem c6 (V : World) : Calls Try.prog 22 #[.slice (some ⟨V.heap.size + 1, 0, none⟩) 1 1] ((V.alloc (.cells #[.int .u8 1, .int .u8 2, .int .u8 0, .int .u8 0, .int .u8 0, .int .u8 0, .int .u8 0, .int .u8 0, .int .u8 0, .int .u8 0, .int .u8 0, .int .u8 0, .int .u8 0, .int .u8 0, .int .u8 0, .int .u8 0] 57)).alloc (.cells #[.int .u8 1, .int .u8 2, .int .u8 0, .int .u8 0, .int .u8 0, .int .u8 0, .int .u8 0, .int .u8 0, .int .u8 0, .int .u8 0, .int .u8 0, .int .u8 0, .int .u8 0, .int .u8 0, .int .u8 0, .int .u8 0] 57)) fun e w' =>
    ∃ g cap, e = .returned (.slice (some ⟨g, 0, none⟩) 18 cap) ∧ Lies w' w'.heap.size 1 (some ⟨g, 0, none⟩) 18 cap (([129, 1] ++ dEx).map bv) ∧ Lies w' w'.heap.size 1 (some ⟨V.heap.size, 0, none⟩) 16 16 (dEx.map bv) ∧ Below V.heap.size V w' := by
  have hl := lies_lit16 (V.alloc (.cells #[.int .u8 1, .int .u8 2, .int .u8 0, .int .u8 0, .int .u8 0, .int .u8 0, .int .u8 0, .int .u8 0, .int .u8 0, .int .u8 0, .int .u8 0, .int .u8 0, .int .u8 0, .int .u8 0, .int .u8 0, .int .u8 0] 57)) #[.int .u8 1, .int .u8 2, .int .u8 0, .int .u8 0, .int .u8 0, .int .u8 0, .int .u8 0, .int .u8 0, .int .u8 0, .int .u8 0, .int .u8 0, .int .u8 0, .int .u8 0, .int .u8 0, .int .u8 0, .int .u8 0] 57 dEx rfl rfl
  have hd := lies_lit V #[.int .u8 1, .int .u8 2, .int .u8 0, .int .u8 0, .int .u8 0, .int .u8 0, .int .u8 0, .int .u8 0, .int .u8 0, .int .u8 0, .int .u8 0, .int .u8 0, .int .u8 0, .int .u8 0, .int .u8 0, .int .u8 0] 57 (dEx.map bv) rfl (by unfold maxLen; decide)
  rw [size_alloc V] at hl
  refine (digests_any [dEx] 1 1 _ _ hl rfl (by intro x hx; simp at hx; subst hx; rfl) (by rw [ex6]; decide)).mono fun e w' ⟨g, cap, he, ho, hb⟩ => ?_
  rw [ex6] at he ho
  exact ⟨g, cap, he, lies_own ho, (hd.on (b1 _ _)).on hb, bc (bc (b1 _ _) (b1 _ _)) hb⟩
theorem c7 (V : World) (g cap : Nat) (h : Lies V V.heap.size 1 (some ⟨g, 0, none⟩) 18 cap (([129, 1] ++ dEx).map bv)) : Calls Try.prog 34 #[.slice (some ⟨g, 0, none⟩) 18 cap] V fun e w' =>
    ∃ g', e = .returned (.tuple #[.slice (some ⟨g', 0, none⟩) 1 1, .int .i64 18, .int .i64 0]) ∧ Lies w' w'.heap.size 16 (some ⟨g', 0, none⟩) 1 1 (digCells [dEx]) ∧ Below V.heap.size V w' :=
  (getDigests_ok h (few_le (by decide)) ex7).mono fun e w' ⟨g', he, ho, hb⟩ => ⟨g', he, lies_own ho, hb⟩
theorem c9 (V : World) (g : Nat) (h : Lies V V.heap.size 1 (some ⟨g, 0, none⟩) 2 2 (([[], [97]] : List (List UInt8)).map sv)) : Calls Try.prog 33 #[.slice (some ⟨g, 0, none⟩) 2 2, .slice (some ⟨V.heap.size, 0, none⟩) 2 2]
    (V.alloc (.cells #[.string ⟨#[]⟩, .string ⟨#[97]⟩] 9)) (Yes V) :=
  (same_texts _ _ _ _ _ _ _ _ _ _ (h.on (b1 _ _)) (lies_lit V #[.string ⟨#[]⟩, .string ⟨#[97]⟩] 9 (([[], [97]] : List (List UInt8)).map sv) rfl (by unfold maxLen; decide))).mono fun e w' hh => yes_of hh rfl (b1 _ _)
theorem c10 (V : World) : Calls Try.prog 20 #[.slice (some ⟨V.heap.size, 0, none⟩) 2 2] (V.alloc (.cells #[.string ⟨#[]⟩, .string ⟨#[97]⟩] 9)) (Rd V 6 [129, 2, 128, 129, 1, 97]) :=
  (strings_any [[], [97]] _ _ _ _ (lies_lit V #[.string ⟨#[]⟩, .string ⟨#[97]⟩] 9 (([[], [97]] : List (List UInt8)).map sv) rfl (by unfold maxLen; decide)) (by rw [ex9]; decide)).mono fun e w' hh => rd_of_made hh ex9 rfl (b1 _ _)
theorem c12 (V : World) : Calls Try.prog 14 #[.int .i64 (-257)] V (Rd V 3 [125, 254, 255]) :=
  (int_any (-257) V (by decide)).mono fun e w' hh => rd_of_made hh enc_m257 rfl (Below.refl _ _)
theorem c14 (V : World) (g : Nat) (h : Lies V V.heap.size 1 (some ⟨g, 0, none⟩) 2 2 (([1, -1] : List Int).map iv)) : Calls Try.prog 30 #[.slice (some ⟨g, 0, none⟩) 2 2, .slice (some ⟨V.heap.size, 0, none⟩) 2 2]
    (V.alloc (.cells #[.int .i64 1, .int .i64 (-1)] 3)) (Yes V) :=
  (same_ints _ _ _ _ _ _ _ _ _ _ (h.on (b1 _ _)) (lies_lit V #[.int .i64 1, .int .i64 (-1)] 3 (([1, -1] : List Int).map iv) rfl (by unfold maxLen; decide))).mono fun e w' hh => yes_of hh rfl (b1 _ _)
theorem c15 (V : World) : Calls Try.prog 16 #[.string ⟨#[97, 98]⟩] V (Rd V 4 [129, 2, 97, 98]) :=
  (bytes_any [97, 98] V (by rw [ex10]; decide)).mono fun e w' hh => rd_of_made hh ex10 rfl (Below.refl _ _)
theorem c17 (V : World) : Calls Try.prog 18 #[.slice (some ⟨V.heap.size, 0, none⟩) 2 2] (V.alloc (.cells #[.int .i64 1, .int .i64 (-1)] 3)) (Rd V 5 [129, 2, 129, 1, 127]) :=
  (ints_any [1, -1] _ _ _ _ (lies_lit V #[.int .i64 1, .int .i64 (-1)] 3 (([1, -1] : List Int).map iv) rfl (by unfold maxLen; decide)) (by rw [ex11]; decide) (by decide)).mono fun e w' hh => rd_of_made hh ex11 rfl (b1 _ _)
theorem c19 (V : World) (g : Nat) (h : Lies V V.heap.size 16 (some ⟨g, 0, none⟩) 1 1 (digCells [dEx])) : Calls Try.prog 36 #[.slice (some ⟨g, 0, none⟩) 1 1, .slice (some ⟨V.heap.size, 0, none⟩) 1 1]
    (V.alloc (.cells #[.int .u8 1, .int .u8 2, .int .u8 0, .int .u8 0, .int .u8 0, .int .u8 0, .int .u8 0, .int .u8 0, .int .u8 0, .int .u8 0, .int .u8 0, .int .u8 0, .int .u8 0, .int .u8 0, .int .u8 0, .int .u8 0] 57)) (Yes V) :=
  (same_digs [dEx] [dEx] _ _ _ _ _ _ _ _ (h.on (b1 _ _)) (lies_lit16 V #[.int .u8 1, .int .u8 2, .int .u8 0, .int .u8 0, .int .u8 0, .int .u8 0, .int .u8 0, .int .u8 0, .int .u8 0, .int .u8 0, .int .u8 0, .int .u8 0, .int .u8 0, .int .u8 0, .int .u8 0, .int .u8 0] 57 dEx rfl rfl) rfl rfl (by decide) (by decide)).mono fun e w' hh => yes_of hh (by simp) (b1 _ _)
theorem c11 (V : World) (g cap : Nat) (h : Lies V V.heap.size 1 (some ⟨g, 0, none⟩) 6 cap (([129, 2, 128, 129, 1, 97] : List UInt8).map bv)) : Calls Try.prog 13 #[.slice (some ⟨g, 0, none⟩) 6 cap, .slice (some ⟨V.heap.size, 0, none⟩) 6 6]
    (V.alloc (.cells #[.int .u8 129, .int .u8 2, .int .u8 128, .int .u8 129, .int .u8 1, .int .u8 97] 5)) (Yes V) :=
  (same_bytes _ _ _ _ _ _ _ _ _ _ (h.on (b1 _ _)) (lies_lit V #[.int .u8 129, .int .u8 2, .int .u8 128, .int .u8 129, .int .u8 1, .int .u8 97] 5 (([129, 2, 128, 129, 1, 97] : List UInt8).map bv) rfl (by unfold maxLen; decide))).mono fun e w' hh => yes_of hh (by simp) (b1 _ _)
theorem c13 (V : World) (g cap : Nat) (h : Lies V V.heap.size 1 (some ⟨g, 0, none⟩) 3 cap (([125, 254, 255] : List UInt8).map bv)) : Calls Try.prog 13 #[.slice (some ⟨g, 0, none⟩) 3 cap, .slice (some ⟨V.heap.size, 0, none⟩) 3 3]
    (V.alloc (.cells #[.int .u8 125, .int .u8 254, .int .u8 255] 5)) (Yes V) :=
  (same_bytes _ _ _ _ _ _ _ _ _ _ (h.on (b1 _ _)) (lies_lit V #[.int .u8 125, .int .u8 254, .int .u8 255] 5 (([125, 254, 255] : List UInt8).map bv) rfl (by unfold maxLen; decide))).mono fun e w' hh => yes_of hh (by simp) (b1 _ _)
theorem c16 (V : World) (g cap : Nat) (h : Lies V V.heap.size 1 (some ⟨g, 0, none⟩) 4 cap (([129, 2, 97, 98] : List UInt8).map bv)) : Calls Try.prog 13 #[.slice (some ⟨g, 0, none⟩) 4 cap, .slice (some ⟨V.heap.size, 0, none⟩) 4 4]
    (V.alloc (.cells #[.int .u8 129, .int .u8 2, .int .u8 97, .int .u8 98] 5)) (Yes V) :=
  (same_bytes _ _ _ _ _ _ _ _ _ _ (h.on (b1 _ _)) (lies_lit V #[.int .u8 129, .int .u8 2, .int .u8 97, .int .u8 98] 5 (([129, 2, 97, 98] : List UInt8).map bv) rfl (by unfold maxLen; decide))).mono fun e w' hh => yes_of hh (by simp) (b1 _ _)
theorem c18 (V : World) (g cap : Nat) (h : Lies V V.heap.size 1 (some ⟨g, 0, none⟩) 5 cap (([129, 2, 129, 1, 127] : List UInt8).map bv)) : Calls Try.prog 13 #[.slice (some ⟨g, 0, none⟩) 5 cap, .slice (some ⟨V.heap.size, 0, none⟩) 5 5]
    (V.alloc (.cells #[.int .u8 129, .int .u8 2, .int .u8 129, .int .u8 1, .int .u8 127] 5)) (Yes V) :=
  (same_bytes _ _ _ _ _ _ _ _ _ _ (h.on (b1 _ _)) (lies_lit V #[.int .u8 129, .int .u8 2, .int .u8 129, .int .u8 1, .int .u8 127] 5 (([129, 2, 129, 1, 127] : List UInt8).map bv) rfl (by unfold maxLen; decide))).mono fun e w' hh => yes_of hh (by simp) (b1 _ _)

theorem dig_cells {V : World} {B D : Nat} (h : Lies V B 1 (some ⟨D, 0, none⟩) 16 16 (dEx.map bv)) : V.cell? ⟨D, 0, none⟩ = some (.int .u8 1) ∧ V.cell? ⟨D, 1, none⟩ = some (.int .u8 2) ∧ V.cell? ⟨D, 2, none⟩ = some (.int .u8 0) ∧ V.cell? ⟨D, 3, none⟩ = some (.int .u8 0) ∧ V.cell? ⟨D, 4, none⟩ = some (.int .u8 0) ∧ V.cell? ⟨D, 5, none⟩ = some (.int .u8 0) ∧ V.cell? ⟨D, 6, none⟩ = some (.int .u8 0) ∧ V.cell? ⟨D, 7, none⟩ = some (.int .u8 0) ∧ V.cell? ⟨D, 8, none⟩ = some (.int .u8 0) ∧ V.cell? ⟨D, 9, none⟩ = some (.int .u8 0) ∧ V.cell? ⟨D, 10, none⟩ = some (.int .u8 0) ∧ V.cell? ⟨D, 11, none⟩ = some (.int .u8 0) ∧ V.cell? ⟨D, 12, none⟩ = some (.int .u8 0) ∧ V.cell? ⟨D, 13, none⟩ = some (.int .u8 0) ∧ V.cell? ⟨D, 14, none⟩ = some (.int .u8 0) ∧ V.cell? ⟨D, 15, none⟩ = some (.int .u8 0) := by
  obtain ⟨b, o, e, _, hc⟩ := h.cells (by omega)
  simp only [Option.some.injEq, Addr.mk.injEq, and_true] at e
  obtain ⟨rfl, rfl⟩ := e
  have hk : ∀ (j : Nat) (x : UInt8), dEx[j]? = some x → V.cell? ⟨D, j, none⟩ = some (.int .u8 (x.toNat : Int)) := by
    intro j x hx
    have := hc j (bv x) (by rw [List.getElem?_map, hx]; rfl)
    rwa [Nat.zero_add] at this
  exact ⟨hk 0 1 rfl, hk 1 2 rfl, hk 2 0 rfl, hk 3 0 rfl, hk 4 0 rfl, hk 5 0 rfl, hk 6 0 rfl, hk 7 0 rfl, hk 8 0 rfl, hk 9 0 rfl, hk 10 0 rfl, hk 11 0 rfl, hk 12 0 rfl, hk 13 0 rfl, hk 14 0 rfl, hk 15 0 rfl⟩

set_option maxRecDepth 100000 in
set_option maxHeartbeats 4000000 in
theorem sanity_any (w : World) : Calls Try.prog 12 #[] w (Yes w) := by
  have z := Below.refl w.heap.size w
  go_enter Try.func12, Try.ntmps12
  go_wp2_with (first
    | (go_at_call 24; ((with_reducible refine (c1 _).mono ?_)); rintro e w1 ⟨rfl, hb⟩; replace z := bc z hb; clear hb)
    | (go_at_call 24; ((with_reducible refine (c2 _).mono ?_)); rintro e w2 ⟨rfl, hb⟩; replace z := bc z hb; clear hb)
    | (go_at_call 24; ((with_reducible refine (c3 _).mono ?_)); rintro e w3 ⟨rfl, hb⟩; replace z := bc z hb; clear hb)
    | (go_at_call 26; ((with_reducible refine (c4 _).mono ?_)); rintro e w4 ⟨rfl, hb⟩; replace z := bc z hb; clear hb)
    | (go_at_call 28; ((with_reducible refine (c5 _).mono ?_)); rintro e w5 ⟨g5, rfl, r5, hb⟩; replace z := bc z hb; clear hb)
    | (go_at_call 22; ((with_reducible refine (c6 _).mono ?_)); rintro e w6 ⟨g6, cap6, rfl, r6, rd, hb⟩; replace r5 := r5.on hb; replace z := bc z hb; clear hb)
    | (go_at_call 34; ((with_reducible refine (c7 _ _ _ r6).mono ?_)); rintro e w7 ⟨g7, rfl, r7, hb⟩; replace r5 := r5.on hb; replace rd := rd.on hb; replace z := bc z hb; clear hb)
    | (go_at_call 31; ((with_reducible refine (c8 _).mono ?_)); rintro e w8 ⟨g8, rfl, r8, hb⟩; replace r5 := r5.on hb; replace rd := rd.on hb; replace r7 := r7.on hb; replace z := bc z hb; clear hb)
    | (go_at_call 33; ((with_reducible refine (c9 _ _ r8).mono ?_)); rintro e w9 ⟨rfl, hb⟩; replace r5 := r5.on hb; replace rd := rd.on hb; replace r7 := r7.on hb; replace z := bc z hb; clear hb)
    | (go_at_call 20; ((with_reducible refine (c10 _).mono ?_)); rintro e w10 ⟨g10, cap10, rfl, r10, hb⟩; replace r5 := r5.on hb; replace rd := rd.on hb; replace r7 := r7.on hb; replace z := bc z hb; clear hb)
    | (go_at_call 13; ((with_reducible refine (c11 _ _ _ r10).mono ?_)); rintro e w11 ⟨rfl, hb⟩; replace r5 := r5.on hb; replace rd := rd.on hb; replace r7 := r7.on hb; replace z := bc z hb; clear hb)
    | (go_at_call 14; ((with_reducible refine (c12 _).mono ?_)); rintro e w12 ⟨g12, cap12, rfl, r12, hb⟩; replace r5 := r5.on hb; replace rd := rd.on hb; replace r7 := r7.on hb; replace z := bc z hb; clear hb)
    | (go_at_call 13; ((with_reducible refine (c13 _ _ _ r12).mono ?_)); rintro e w13 ⟨rfl, hb⟩; replace r5 := r5.on hb; replace rd := rd.on hb; replace r7 := r7.on hb; replace z := bc z hb; clear hb)
    | (go_at_call 30; ((with_reducible refine (c14 _ _ r5).mono ?_)); rintro e w14 ⟨rfl, hb⟩; replace rd := rd.on hb; replace r7 := r7.on hb; replace z := bc z hb; clear hb)
    | (go_at_call 16; ((with_reducible refine (c15 _).mono ?_)); rintro e w15 ⟨g15, cap15, rfl, r15, hb⟩; replace rd := rd.on hb; replace r7 := r7.on hb; replace z := bc z hb; clear hb)
    | (go_at_call 13; ((with_reducible refine (c16 _ _ _ r15).mono ?_)); rintro e w16 ⟨rfl, hb⟩; replace rd := rd.on hb; replace r7 := r7.on hb; replace z := bc z hb; clear hb)
    | (go_at_call 18; ((with_reducible refine (c17 _).mono ?_)); rintro e w17 ⟨g17, cap17, rfl, r17, hb⟩; replace rd := rd.on hb; replace r7 := r7.on hb; replace z := bc z hb; clear hb)
    | (go_at_call 13; ((with_reducible refine (c18 _ _ _ r17).mono ?_)); rintro e w18 ⟨rfl, hb⟩; replace rd := rd.on hb; replace r7 := r7.on hb; replace z := bc z hb; clear hb; obtain ⟨k0, k1, k2, k3, k4, k5, k6, k7, k8, k9, k10, k11, k12, k13, k14, k15⟩ := dig_cells rd)
    | (go_at_call 36; ((with_reducible refine (c19 _ _ r7).mono ?_)); rintro e w19 ⟨rfl, hb⟩; replace z := bc z hb; clear hb))
  go_ret
  exact ⟨rfl, z⟩

end Wire
end Go.Proofs.Ytlpkiaeimcoplaa
