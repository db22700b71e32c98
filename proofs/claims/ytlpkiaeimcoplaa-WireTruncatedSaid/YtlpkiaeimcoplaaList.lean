/- What wire.list returns, of integers and of texts. Condition: the slice's cells are bytes and lie where they are said to lie; there are at most 2^40. -/
import Derived.Test.YtlpkiaeimcoplaaClo
import Derived.Test.YtlpkiaeimcoplaaNumB
import Derived.Test.YtlpkiaeimcoplaaBoxes
import Derived.Deep.QuietTactic
import Derived.BigQuiet
namespace Go.Proofs.Ytlpkiaeimcoplaa
open Go.RowKit
namespace Wire

theorem int_info : (Try.prog.info? 3).map (fun i => (i.zero, i.size, i.bytes)) = some (some (.int .i64 0), 1, 8) := by kernel_rfl

/-- A new list is returned, and the place behind it; or the error's number. -/
def GotL_int (w : World) (r : Except Nat (List Int × Nat)) (e : Ending) (w' : World) : Prop :=
  match r with
  | .ok (xs, to) => ∃ g, e = .returned (.tuple #[.slice (some ⟨g, 0, none⟩) xs.length xs.length, .int .i64 (to : Int), .int .i64 0]) ∧
      w'.ownsRow w.heap.size 3 1 (.slice (some ⟨g, 0, none⟩) xs.length xs.length) xs.length (xs.map iv) ∧ Below w.heap.size w w'
  | .error x => e = .returned (.tuple #[.slice none 0 0, .int .i64 0, .int .i64 (x : Int)]) ∧ Below w.heap.size w w'

set_option maxRecDepth 100000 in
set_option maxHeartbeats 1000000 in
theorem list_int (bs : List UInt8) (n c : Nat) (A : Option Addr) (w : World) (hl : Lies w w.heap.size 1 A n c (bs.map bv)) (hbs : n ≤ 1099511627776) :
    Calls Try.prog 40 #[.slice A n c, .int .i64 1, .func (.func 24) #[] #[]] w (GotL_int w (decList dec 1 bs)) := by
  have hmost : c ≤ 9223372036854775807 := by have := hl.most; unfold maxLen at this; omega
  have hle := hl.le
  have hbl : bs.length = n := by have := hl.len; simpa using this
  obtain ⟨i0, hi, hz0, hz1, hz2⟩ := info_parts int_info
  have hmf : ∀ (fn : Fn) (first cap : Array Value) (w : World), (Instr.makeFunc fn first cap).run Try.prog w = .ok (.func fn first cap) w := fun _ _ _ _ => rfl
  have hlb : Lies ((w.alloc (.cells #[.slice A n c] 28)).alloc (.cells #[.func (.func 24) #[] #[]] 37)) w.heap.size 1 A n c (bs.map bv) :=
    hl.keep fun p hp => (((Below.refl w.heap.size w).alloc (Nat.le_refl _) _).alloc (by simp) _).cell hp
  cases hd : declen 1 bs with
  | error x =>
    have hx := declen_err hd
    have hx0 : ¬ (x : Int) = 0 := by omega
    have hr : decList dec 1 bs = .error x := by unfold decList; rw [hd]
    have hcl := len_err hlb (size := 1) (by omega) hd
    have HC := Lib.hid hcl; clear hcl hd
    have HR := Lib.hid hr; clear hr
    have HX := Lib.hid hx; clear hx
    have HB := Lib.hid hbl; clear hbl
    go_enter Try.func40, Try.ntmps40
    go_wp2_with (go_at_call 38; refine HC.out.mono ?_; rintro e w' ⟨rfl, rfl⟩)
    go_ret3
    rw [HR.out]
    exact ⟨rfl, ((((Below.refl _ _).alloc (Nat.le_refl _) _).alloc (by simp) _).alloc (by simp; omega) _)⟩
  | ok p =>
    obtain ⟨v, u⟩ := p
    obtain ⟨hd1, hv0, hv1⟩ := declen_ok hd
    have hu := dec_used hd1
    obtain ⟨k, rfl⟩ : ∃ k : Nat, v = k := ⟨v.toNat, by omega⟩
    have hk : u + k ≤ n := by simp at hv1; omega
    have hr : decList dec 1 bs = decMany dec bs k u := by unfold decList; rw [hd]; simp
    have hcl := len_ok hlb (size := 1) (by omega) hd
    have HC := Lib.hid hcl; clear hcl hd
    have HR := Lib.hid hr; clear hr
    have HD := Lib.hid hd1; clear hd1 hv1 hv0
    have HU := Lib.hid hu; clear hu
    have HB := Lib.hid hbl; clear hbl
    go_enter Try.func40, Try.ntmps40
    go_wp2_with (first
      | (go_at_call 38; refine HC.out.mono ?_; rintro e w' ⟨rfl, rfl⟩)
      | (at_make; refine wpList_make_full _ rfl _ _ 22 rfl (w.heap.size + 1 + 1 + 1) 3 i0 (.int .i64 0) 1 Try.underlying22 hi hz0 hz1 .i64 .i64 _ _ k rfl rfl rfl rfl (by rw [hz2]; omega) (by unfold maxLen; omega) (by simp only [size_alloc]; omega) ?_; intro w4 hown4 hg4))
    have hbx := boxes_start w w4 24 A n c u _ _ _ hg4
    have hown5 : w4.ownsRow (w.heap.size + 1 + 1 + 1) 3 1 (.slice (some ⟨w.heap.size + 1 + 1 + 1, 0, none⟩) k k) k (List.replicate k (.int .i64 0)) := by
      have h := hown4
      rw [show (.int .i64 0 : Value).cells = #[.int .i64 0] from rfl, Nat.mul_one, toList_madeCells_one] at h
      simpa only [size_alloc] using h
    clear hown4 hg4
    go_wp2
    go_loopw [30] (fun jv wr => ∃ (i to : Nat) (xs : List Int), i ≤ k ∧ jv = .int .i64 (i : Int) ∧ xs.length = i ∧ to ≤ n ∧ decMany dec bs k u = pre xs (decMany dec bs (k - i) to) ∧ Boxes w wr 24 A n c to ∧
        wr.ownsRow (w.heap.size + 1 + 1 + 1) 3 1 (.slice (some ⟨w.heap.size + 1 + 1 + 1, 0, none⟩) k k) k (xs.map iv ++ List.replicate (k - i) (.int .i64 0))) (fun jv _ => (k - (intOf jv)).toNat)
    case atStart => exact ⟨0, u, [], by omega, rfl, rfl, by omega, by rw [pre_nil]; rfl, hbx, by simpa using hown5⟩
    case round =>
      obtain ⟨i, to, xs, hik, rfl, hxs, hto, hdm, hbr, hown⟩ := hrel
      clear hown5 hbx
      by_cases hlt : i < k
      · have hlr : Lies wr w.heap.size 1 A n c (bs.map bv) := hl.below hbr.below
        cases hg : dec (bs.drop to) with
        | error x =>
          have hx := dec_err hg
          have hx0 : ¬ (x : Int) = 0 := by omega
          have hcl : Calls Try.prog 44 #[.pointer (some ⟨w.heap.size + 1, 0, none⟩), .pointer (some ⟨w.heap.size, 0, none⟩), .pointer (some ⟨w.heap.size + 1 + 1, 0, none⟩)] wr (Clo wr (w.heap.size + 1 + 1) (.int .i64 0) x to) := clo_int_err bs n c A wr _ hlr _ _ _ to hbr.fn_ hbr.sl hbr.to_ hbr.free hto x hg
          have hfr : ∀ w2 : World, w2 = (wr.setCell ⟨w.heap.size + 1 + 1, 0, none⟩ (.int .i64 (to : Int))).drew →
              w2.cell? ⟨w.heap.size + 1 + 1 + 1, i, none⟩ = some (.int .i64 0) ∧ w2.frozen? ⟨w.heap.size + 1 + 1 + 1, i, none⟩ = false := by
            rintro w2 rfl
            have h2 := (ownsRow_setCell_below hown (a := ⟨w.heap.size + 1 + 1, 0, none⟩) (by show w.heap.size + 1 + 1 < _; omega) (.int .i64 (to : Int))).drew
            exact ⟨(h2.cellAt i (by omega)).trans (get_rep iv xs _ hxs hlt), h2.frozenAt i⟩
          have hend : ∀ w2 : World, w2 = (wr.setCell ⟨w.heap.size + 1 + 1, 0, none⟩ (.int .i64 (to : Int))).drew → GotL_int w (decList dec 1 bs) (.returned (.tuple #[.slice none 0 0, .int .i64 0, .int .i64 (x : Int)])) (w2.setCell ⟨w.heap.size + 1 + 1 + 1, i, none⟩ (iv 0)) := by
            rintro w2 rfl
            have h3 := hbr.moved to
            obtain ⟨d, hdd⟩ : ∃ d, k - i = d + 1 := ⟨k - i - 1, by omega⟩
            rw [HR.out, hdm, hdd, pre_err hg]
            exact ⟨rfl, h3.below.setCell (p := ⟨w.heap.size + 1 + 1 + 1, i, none⟩) (by show w.heap.size ≤ w.heap.size + 1 + 1 + 1; omega) _⟩
          have HCL := Lib.hid hcl; clear hcl
          have HFR := Lib.hid hfr; clear hfr
          have HEND := Lib.hid hend; clear hend
          have HX := Lib.hid hx; clear hx
          have HG := Lib.hid hg; clear hg
          have HM := Lib.hid hdm; clear hdm
          have HXS := Lib.hid hxs; clear hxs
          go_wp2_with (go_at_call 44; refine HCL.out.mono ?_; rintro e w2 ⟨rfl, hw2⟩; obtain ⟨hc2, hf2⟩ := HFR.out w2 hw2; have HW2 := Lib.hid hw2; clear hw2)
          go_ret3
          exact HEND.out _ HW2.out
        | ok q =>
          obtain ⟨v, m⟩ := q
          have hm := dec_used hg
          have hm3 : to + m ≤ n := by have h1 := HB.out; have h2 := hm; simp at h2; omega
          have hcl : Calls Try.prog 44 #[.pointer (some ⟨w.heap.size + 1, 0, none⟩), .pointer (some ⟨w.heap.size, 0, none⟩), .pointer (some ⟨w.heap.size + 1 + 1, 0, none⟩)] wr (Clo wr (w.heap.size + 1 + 1) (.int .i64 v) 0 (to + m)) := clo_int_ok bs n c A wr _ hlr _ _ _ to hbr.fn_ hbr.sl hbr.to_ hbr.free hto v m hg (by omega) hm3
          have hfr : ∀ w2 : World, w2 = (wr.setCell ⟨w.heap.size + 1 + 1, 0, none⟩ (.int .i64 ((to + m : Nat) : Int))).drew →
              w2.cell? ⟨w.heap.size + 1 + 1 + 1, i, none⟩ = some (.int .i64 0) ∧ w2.frozen? ⟨w.heap.size + 1 + 1 + 1, i, none⟩ = false := by
            rintro w2 rfl
            have h2 := (ownsRow_setCell_below hown (a := ⟨w.heap.size + 1 + 1, 0, none⟩) (by show w.heap.size + 1 + 1 < _; omega) (.int .i64 ((to + m : Nat) : Int))).drew
            exact ⟨(h2.cellAt i (by omega)).trans (get_rep iv xs _ hxs hlt), h2.frozenAt i⟩
          have hend : ∀ w2 : World, w2 = (wr.setCell ⟨w.heap.size + 1 + 1, 0, none⟩ (.int .i64 ((to + m : Nat) : Int))).drew →
              ∃ (i_1 to : Nat) (xs : List Int), i_1 ≤ k ∧ Value.int .i64 ((i : Int) + 1) = .int .i64 (i_1 : Int) ∧ xs.length = i_1 ∧ to ≤ n ∧ decMany dec bs k u = pre xs (decMany dec bs (k - i_1) to) ∧ Boxes w (w2.setCell ⟨w.heap.size + 1 + 1 + 1, i, none⟩ (iv v)) 24 A n c to ∧
                (w2.setCell ⟨w.heap.size + 1 + 1 + 1, i, none⟩ (iv v)).ownsRow (w.heap.size + 1 + 1 + 1) 3 1 (.slice (some ⟨w.heap.size + 1 + 1 + 1, 0, none⟩) k k) k (xs.map iv ++ List.replicate (k - i_1) (.int .i64 0)) := by
            rintro w2 rfl
            have h3 := hbr.moved (to + m)
            have h2 := (ownsRow_setCell_below hown (a := ⟨w.heap.size + 1 + 1, 0, none⟩) (by show w.heap.size + 1 + 1 < _; omega) (.int .i64 ((to + m : Nat) : Int))).drew
            obtain ⟨h4, h5⟩ := h2.stored i (iv v)
            refine ⟨i + 1, to + m, xs ++ [v], by omega, by go_num, by simp; omega, hm3, ?_, h3.far (by omega) h5, ?_⟩
            · obtain ⟨d, hdd⟩ : ∃ d, k - i = d + 1 := ⟨k - i - 1, by omega⟩
              rw [hdm, hdd, pre_ok hg, show k - (i + 1) = d by omega]
            · rw [← set_rep iv xs v _ hxs hlt]; exact h4
          have HCL := Lib.hid hcl; clear hcl
          have HFR := Lib.hid hfr; clear hfr
          have HEND := Lib.hid hend; clear hend
          have HMU := Lib.hid hm; clear hm
          have HG := Lib.hid hg; clear hg
          have HM := Lib.hid hdm; clear hdm
          have HXS := Lib.hid hxs; clear hxs
          go_wp2_with (go_at_call 44; refine HCL.out.mono ?_; rintro e w2 ⟨rfl, hw2⟩; obtain ⟨hc2, hf2⟩ := HFR.out w2 hw2; have HW2 := Lib.hid hw2; clear hw2)
          go_roundw
          case rel => exact HEND.out _ HW2.out
          case measure => simp [intOf]; omega
      · obtain rfl : i = k := by omega
        have hto2 := hbr.to_
        have hend : ∀ nq, GotL_int w (decList dec 1 bs) (.returned (.tuple #[.slice (some ⟨w.heap.size + 1 + 1 + 1, 0, none⟩) i i, .int .i64 (to : Int), .int .i64 0])) (wr.drewN nq) := by
          intro nq
          rw [HR.out, hdm, Nat.sub_self, pre_zero]
          have h := hown
          rw [Nat.sub_self, List.replicate_zero, List.append_nil] at h
          subst hxs
          have hb := hbr.below
          exact ⟨_, rfl, own_more h (by omega), ⟨hb.os, hb.tape, hb.output, hb.size, hb.block⟩⟩
        have HEND := Lib.hid hend; clear hend
        have HM := Lib.hid hdm; clear hdm
        have HXS := Lib.hid hxs; clear hxs
        go_wp2
        go_quiet (fail)
        go_wp2
        go_ret3
        exact HEND.out _

theorem str_info : (Try.prog.info? 9).map (fun i => (i.zero, i.size, i.bytes)) = some (some (.string ⟨#[]⟩), 1, 16) := by kernel_rfl

/-- A new list is returned, and the place behind it; or the error's number. -/
def GotL_str (w : World) (r : Except Nat (List (List UInt8) × Nat)) (e : Ending) (w' : World) : Prop :=
  match r with
  | .ok (xs, to) => ∃ g, e = .returned (.tuple #[.slice (some ⟨g, 0, none⟩) xs.length xs.length, .int .i64 (to : Int), .int .i64 0]) ∧
      w'.ownsRow w.heap.size 9 1 (.slice (some ⟨g, 0, none⟩) xs.length xs.length) xs.length (xs.map sv) ∧ Below w.heap.size w w'
  | .error x => e = .returned (.tuple #[.slice none 0 0, .int .i64 0, .int .i64 (x : Int)]) ∧ Below w.heap.size w w'

set_option maxRecDepth 100000 in
set_option maxHeartbeats 1000000 in
theorem list_str (bs : List UInt8) (n c : Nat) (A : Option Addr) (w : World) (hl : Lies w w.heap.size 1 A n c (bs.map bv)) (hbs : n ≤ 1099511627776) :
    Calls Try.prog 41 #[.slice A n c, .int .i64 1, .func (.func 26) #[] #[]] w (GotL_str w (decList decStr 1 bs)) := by
  have hmost : c ≤ 9223372036854775807 := by have := hl.most; unfold maxLen at this; omega
  have hle := hl.le
  have hbl : bs.length = n := by have := hl.len; simpa using this
  obtain ⟨i0, hi, hz0, hz1, hz2⟩ := info_parts str_info
  have hmf : ∀ (fn : Fn) (first cap : Array Value) (w : World), (Instr.makeFunc fn first cap).run Try.prog w = .ok (.func fn first cap) w := fun _ _ _ _ => rfl
  have hlb : Lies ((w.alloc (.cells #[.slice A n c] 28)).alloc (.cells #[.func (.func 26) #[] #[]] 39)) w.heap.size 1 A n c (bs.map bv) :=
    hl.keep fun p hp => (((Below.refl w.heap.size w).alloc (Nat.le_refl _) _).alloc (by simp) _).cell hp
  cases hd : declen 1 bs with
  | error x =>
    have hx := declen_err hd
    have hx0 : ¬ (x : Int) = 0 := by omega
    have hr : decList decStr 1 bs = .error x := by unfold decList; rw [hd]
    have hcl := len_err hlb (size := 1) (by omega) hd
    have HC := Lib.hid hcl; clear hcl hd
    have HR := Lib.hid hr; clear hr
    have HX := Lib.hid hx; clear hx
    have HB := Lib.hid hbl; clear hbl
    go_enter Try.func41, Try.ntmps41
    go_wp2_with (go_at_call 38; refine HC.out.mono ?_; rintro e w' ⟨rfl, rfl⟩)
    go_ret3
    rw [HR.out]
    exact ⟨rfl, ((((Below.refl _ _).alloc (Nat.le_refl _) _).alloc (by simp) _).alloc (by simp; omega) _)⟩
  | ok p =>
    obtain ⟨v, u⟩ := p
    obtain ⟨hd1, hv0, hv1⟩ := declen_ok hd
    have hu := dec_used hd1
    obtain ⟨k, rfl⟩ : ∃ k : Nat, v = k := ⟨v.toNat, by omega⟩
    have hk : u + k ≤ n := by simp at hv1; omega
    have hr : decList decStr 1 bs = decMany decStr bs k u := by unfold decList; rw [hd]; simp
    have hcl := len_ok hlb (size := 1) (by omega) hd
    have HC := Lib.hid hcl; clear hcl hd
    have HR := Lib.hid hr; clear hr
    have HD := Lib.hid hd1; clear hd1 hv1 hv0
    have HU := Lib.hid hu; clear hu
    have HB := Lib.hid hbl; clear hbl
    go_enter Try.func41, Try.ntmps41
    go_wp2_with (first
      | (go_at_call 38; refine HC.out.mono ?_; rintro e w' ⟨rfl, rfl⟩)
      | (at_make; refine wpList_make_full _ rfl _ _ 23 rfl (w.heap.size + 1 + 1 + 1) 9 i0 (.string ⟨#[]⟩) 1 Try.underlying23 hi hz0 hz1 .i64 .i64 _ _ k rfl rfl rfl rfl (by rw [hz2]; omega) (by unfold maxLen; omega) (by simp only [size_alloc]; omega) ?_; intro w4 hown4 hg4))
    have hbx := boxes_start w w4 26 A n c u _ _ _ hg4
    have hown5 : w4.ownsRow (w.heap.size + 1 + 1 + 1) 9 1 (.slice (some ⟨w.heap.size + 1 + 1 + 1, 0, none⟩) k k) k (List.replicate k (.string ⟨#[]⟩)) := by
      have h := hown4
      rw [show (.string ⟨#[]⟩ : Value).cells = #[.string ⟨#[]⟩] from rfl, Nat.mul_one, toList_madeCells_one] at h
      simpa only [size_alloc] using h
    clear hown4 hg4
    go_wp2
    go_loopw [30] (fun jv wr => ∃ (i to : Nat) (xs : List (List UInt8)), i ≤ k ∧ jv = .int .i64 (i : Int) ∧ xs.length = i ∧ to ≤ n ∧ decMany decStr bs k u = pre xs (decMany decStr bs (k - i) to) ∧ Boxes w wr 26 A n c to ∧
        wr.ownsRow (w.heap.size + 1 + 1 + 1) 9 1 (.slice (some ⟨w.heap.size + 1 + 1 + 1, 0, none⟩) k k) k (xs.map sv ++ List.replicate (k - i) (.string ⟨#[]⟩))) (fun jv _ => (k - (intOf jv)).toNat)
    case atStart => exact ⟨0, u, [], by omega, rfl, rfl, by omega, by rw [pre_nil]; rfl, hbx, by simpa using hown5⟩
    case round =>
      obtain ⟨i, to, xs, hik, rfl, hxs, hto, hdm, hbr, hown⟩ := hrel
      clear hown5 hbx
      by_cases hlt : i < k
      · have hlr : Lies wr w.heap.size 1 A n c (bs.map bv) := hl.below hbr.below
        cases hg : decStr (bs.drop to) with
        | error x =>
          have hx := decStr_err hg
          have hx0 : ¬ (x : Int) = 0 := by omega
          have hcl : Calls Try.prog 45 #[.pointer (some ⟨w.heap.size + 1, 0, none⟩), .pointer (some ⟨w.heap.size, 0, none⟩), .pointer (some ⟨w.heap.size + 1 + 1, 0, none⟩)] wr (Clo wr (w.heap.size + 1 + 1) (.string ⟨#[]⟩) x to) := clo_str_err bs n c A wr _ hlr _ _ _ to hbr.fn_ hbr.sl hbr.to_ hbr.free hto x hg
          have hfr : ∀ w2 : World, w2 = (wr.setCell ⟨w.heap.size + 1 + 1, 0, none⟩ (.int .i64 (to : Int))).drew →
              w2.cell? ⟨w.heap.size + 1 + 1 + 1, i, none⟩ = some (.string ⟨#[]⟩) ∧ w2.frozen? ⟨w.heap.size + 1 + 1 + 1, i, none⟩ = false := by
            rintro w2 rfl
            have h2 := (ownsRow_setCell_below hown (a := ⟨w.heap.size + 1 + 1, 0, none⟩) (by show w.heap.size + 1 + 1 < _; omega) (.int .i64 (to : Int))).drew
            exact ⟨(h2.cellAt i (by omega)).trans (get_rep sv xs _ hxs hlt), h2.frozenAt i⟩
          have hend : ∀ w2 : World, w2 = (wr.setCell ⟨w.heap.size + 1 + 1, 0, none⟩ (.int .i64 (to : Int))).drew → GotL_str w (decList decStr 1 bs) (.returned (.tuple #[.slice none 0 0, .int .i64 0, .int .i64 (x : Int)])) (w2.setCell ⟨w.heap.size + 1 + 1 + 1, i, none⟩ (sv [])) := by
            rintro w2 rfl
            have h3 := hbr.moved to
            obtain ⟨d, hdd⟩ : ∃ d, k - i = d + 1 := ⟨k - i - 1, by omega⟩
            rw [HR.out, hdm, hdd, pre_err hg]
            exact ⟨rfl, h3.below.setCell (p := ⟨w.heap.size + 1 + 1 + 1, i, none⟩) (by show w.heap.size ≤ w.heap.size + 1 + 1 + 1; omega) _⟩
          have HCL := Lib.hid hcl; clear hcl
          have HFR := Lib.hid hfr; clear hfr
          have HEND := Lib.hid hend; clear hend
          have HX := Lib.hid hx; clear hx
          have HG := Lib.hid hg; clear hg
          have HM := Lib.hid hdm; clear hdm
          have HXS := Lib.hid hxs; clear hxs
          go_wp2_with (go_at_call 45; refine HCL.out.mono ?_; rintro e w2 ⟨rfl, hw2⟩; obtain ⟨hc2, hf2⟩ := HFR.out w2 hw2; have HW2 := Lib.hid hw2; clear hw2)
          go_ret3
          exact HEND.out _ HW2.out
        | ok q =>
          obtain ⟨v, m⟩ := q
          have hm := decStr_used hg
          have hm3 : to + m ≤ n := by have h1 := HB.out; have h2 := hm; simp at h2; omega
          have hcl : Calls Try.prog 45 #[.pointer (some ⟨w.heap.size + 1, 0, none⟩), .pointer (some ⟨w.heap.size, 0, none⟩), .pointer (some ⟨w.heap.size + 1 + 1, 0, none⟩)] wr (Clo wr (w.heap.size + 1 + 1) (.string ⟨v.toArray⟩) 0 (to + m)) := clo_str_ok bs n c A wr _ hlr _ _ _ to hbr.fn_ hbr.sl hbr.to_ hbr.free hto v m hg (by omega) hm3
          have hfr : ∀ w2 : World, w2 = (wr.setCell ⟨w.heap.size + 1 + 1, 0, none⟩ (.int .i64 ((to + m : Nat) : Int))).drew →
              w2.cell? ⟨w.heap.size + 1 + 1 + 1, i, none⟩ = some (.string ⟨#[]⟩) ∧ w2.frozen? ⟨w.heap.size + 1 + 1 + 1, i, none⟩ = false := by
            rintro w2 rfl
            have h2 := (ownsRow_setCell_below hown (a := ⟨w.heap.size + 1 + 1, 0, none⟩) (by show w.heap.size + 1 + 1 < _; omega) (.int .i64 ((to + m : Nat) : Int))).drew
            exact ⟨(h2.cellAt i (by omega)).trans (get_rep sv xs _ hxs hlt), h2.frozenAt i⟩
          have hend : ∀ w2 : World, w2 = (wr.setCell ⟨w.heap.size + 1 + 1, 0, none⟩ (.int .i64 ((to + m : Nat) : Int))).drew →
              ∃ (i_1 to : Nat) (xs : List (List UInt8)), i_1 ≤ k ∧ Value.int .i64 ((i : Int) + 1) = .int .i64 (i_1 : Int) ∧ xs.length = i_1 ∧ to ≤ n ∧ decMany decStr bs k u = pre xs (decMany decStr bs (k - i_1) to) ∧ Boxes w (w2.setCell ⟨w.heap.size + 1 + 1 + 1, i, none⟩ (sv v)) 26 A n c to ∧
                (w2.setCell ⟨w.heap.size + 1 + 1 + 1, i, none⟩ (sv v)).ownsRow (w.heap.size + 1 + 1 + 1) 9 1 (.slice (some ⟨w.heap.size + 1 + 1 + 1, 0, none⟩) k k) k (xs.map sv ++ List.replicate (k - i_1) (.string ⟨#[]⟩)) := by
            rintro w2 rfl
            have h3 := hbr.moved (to + m)
            have h2 := (ownsRow_setCell_below hown (a := ⟨w.heap.size + 1 + 1, 0, none⟩) (by show w.heap.size + 1 + 1 < _; omega) (.int .i64 ((to + m : Nat) : Int))).drew
            obtain ⟨h4, h5⟩ := h2.stored i (sv v)
            refine ⟨i + 1, to + m, xs ++ [v], by omega, by go_num, by simp; omega, hm3, ?_, h3.far (by omega) h5, ?_⟩
            · obtain ⟨d, hdd⟩ : ∃ d, k - i = d + 1 := ⟨k - i - 1, by omega⟩
              rw [hdm, hdd, pre_ok hg, show k - (i + 1) = d by omega]
            · rw [← set_rep sv xs v _ hxs hlt]; exact h4
          have HCL := Lib.hid hcl; clear hcl
          have HFR := Lib.hid hfr; clear hfr
          have HEND := Lib.hid hend; clear hend
          have HMU := Lib.hid hm; clear hm
          have HG := Lib.hid hg; clear hg
          have HM := Lib.hid hdm; clear hdm
          have HXS := Lib.hid hxs; clear hxs
          go_wp2_with (go_at_call 45; refine HCL.out.mono ?_; rintro e w2 ⟨rfl, hw2⟩; obtain ⟨hc2, hf2⟩ := HFR.out w2 hw2; have HW2 := Lib.hid hw2; clear hw2)
          go_roundw
          case rel => exact HEND.out _ HW2.out
          case measure => simp [intOf]; omega
      · obtain rfl : i = k := by omega
        have hto2 := hbr.to_
        have hend : ∀ nq, GotL_str w (decList decStr 1 bs) (.returned (.tuple #[.slice (some ⟨w.heap.size + 1 + 1 + 1, 0, none⟩) i i, .int .i64 (to : Int), .int .i64 0])) (wr.drewN nq) := by
          intro nq
          rw [HR.out, hdm, Nat.sub_self, pre_zero]
          have h := hown
          rw [Nat.sub_self, List.replicate_zero, List.append_nil] at h
          subst hxs
          have hb := hbr.below
          exact ⟨_, rfl, own_more h (by omega), ⟨hb.os, hb.tape, hb.output, hb.size, hb.block⟩⟩
        have HEND := Lib.hid hend; clear hend
        have HM := Lib.hid hdm; clear hdm
        have HXS := Lib.hid hxs; clear hxs
        go_wp2
        go_quiet (fail)
        go_wp2
        go_ret3
        exact HEND.out _

end Wire
end Go.Proofs.Ytlpkiaeimcoplaa
