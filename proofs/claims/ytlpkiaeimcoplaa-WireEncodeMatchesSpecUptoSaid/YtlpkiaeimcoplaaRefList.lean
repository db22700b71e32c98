/- What the reference's GetInts and GetStrings return. Condition: the slice's cells are bytes and lie where they are said to lie; there are at most 2^40. -/
import Derived.Test.YtlpkiaeimcoplaaRefCnt
namespace Go.Proofs.Ytlpkiaeimcoplaa
open Go.RowKit
namespace Wire

theorem refStr_ok {bs : List UInt8} {n c : Nat} {A : Option Addr} {w : World} {v : List UInt8} {u : Nat} (hl : Lies w w.heap.size 1 A n c (bs.map bv)) (hbs : n ≤ 1099511627776) (h : decStr bs = .ok (v, u)) :
    Calls Try.prog 27 #[.slice A n c] w fun e w' => e = .returned (.tuple #[sv v, .int .i64 (u : Int), .int .i64 0]) ∧ Below w.heap.size w w' :=
  (refStr_any bs n c A w hl hbs).mono fun _ _ ⟨he, hw⟩ => ⟨by rw [he, h]; rfl, hw⟩
theorem refStr_err {bs : List UInt8} {n c : Nat} {A : Option Addr} {w : World} {x : Nat} (hl : Lies w w.heap.size 1 A n c (bs.map bv)) (hbs : n ≤ 1099511627776) (h : decStr bs = .error x) :
    Calls Try.prog 27 #[.slice A n c] w fun e w' => e = .returned (.tuple #[sv [], .int .i64 0, .int .i64 (x : Int)]) ∧ Below w.heap.size w w' :=
  (refStr_any bs n c A w hl hbs).mono fun _ _ ⟨he, hw⟩ => ⟨by rw [he, h]; rfl, hw⟩

/-- A list, and the place behind it; or the error's number. -/
def GotLB_int (w : World) (r : Except Nat (List Int × Nat)) (e : Ending) (w' : World) : Prop :=
  match r with
  | .ok (xs, to) => ∃ v, e = .returned (.tuple #[v, .int .i64 (to : Int), .int .i64 0]) ∧ w'.ownsRow w.heap.size 3 1 v xs.length (xs.map iv) ∧ Below w.heap.size w w'
  | .error x => e = .returned (.tuple #[.slice none 0 0, .int .i64 0, .int .i64 (x : Int)]) ∧ Below w.heap.size w w'

set_option maxRecDepth 100000 in
set_option maxHeartbeats 1000000 in
theorem refList_int (bs : List UInt8) (n c : Nat) (A : Option Addr) (w : World) (hl : Lies w w.heap.size 1 A n c (bs.map bv)) (hbs : n ≤ 1099511627776) :
    Calls Try.prog 29 #[.slice A n c] w (GotLB_int w (decList dec 1 bs)) := by
  have hmost : c ≤ 9223372036854775807 := by have := hl.most; unfold maxLen at this; omega
  have hle := hl.le
  have hbl : bs.length = n := by have := hl.len; simpa using this
  obtain ⟨i0, hi, hz0, hz1, hz2⟩ := info_parts int_info
  cases hd : declen 1 bs with
  | error x =>
    have hx := declen_err hd
    have hx0 : ¬ (x : Int) = 0 := by omega
    have hr : decList dec 1 bs = .error x := by unfold decList; rw [hd]
    have HC := Lib.hid (refCnt_err hl (size := 1) (by omega) hbs hd); clear hd
    have HR := Lib.hid hr; clear hr
    have HX := Lib.hid hx; clear hx
    have HB := Lib.hid hbl; clear hbl
    go_enter Try.func29, Try.ntmps29
    go_wp2_with (go_at_call 39; refine HC.out.mono ?_; rintro e w1 ⟨rfl, hb⟩)
    go_ret3
    rw [HR.out]
    exact ⟨rfl, hb⟩
  | ok p =>
    obtain ⟨v, u⟩ := p
    obtain ⟨hd1, hv0, hv1⟩ := declen_ok hd
    have hu := dec_used hd1
    obtain ⟨k, rfl⟩ : ∃ k : Nat, v = k := ⟨v.toNat, by omega⟩
    have hk : u + k ≤ n := by simp at hv1; omega
    have hr : decList dec 1 bs = decMany dec bs k u := by unfold decList; rw [hd]; simp
    have HC := Lib.hid (refCnt_ok hl (size := 1) (by omega) hbs hd); clear hd
    have HR := Lib.hid hr; clear hr
    have HD := Lib.hid hd1; clear hd1 hv1 hv0
    have HU := Lib.hid hu; clear hu
    have HB := Lib.hid hbl; clear hbl
    go_enter Try.func29, Try.ntmps29
    go_wp2_with (go_at_call 39; refine HC.out.mono ?_; rintro e w1 ⟨rfl, hb1⟩)
    go_loopw [6, 8, 9] (fun av v jv wr => ∃ (i to : Nat) (xs : List Int), i ≤ k ∧ jv = .int .i64 (i : Int) ∧ av = .int .i64 (to : Int) ∧ xs.length = i ∧ to ≤ n ∧ decMany dec bs k u = pre xs (decMany dec bs (k - i) to) ∧
        wr.ownsRow w.heap.size 3 1 v i (xs.map iv) ∧ Below w.heap.size w wr) (fun _ _ jv _ => (k - (intOf jv)).toNat)
    case atStart => exact ⟨0, u, [], by omega, rfl, rfl, rfl, by omega, by rw [pre_nil]; rfl, World.ownsRow_nil _ _ _ _, hb1⟩
    case round =>
      obtain ⟨i, to, xs, hik, rfl, rfl, hxs, hto, hdm, hown, hb⟩ := hrel
      clear hb1
      by_cases hlt : i < k
      · have hlr := hl.on hb
        cases hg : dec (bs.drop to) with
        | error x =>
          have hx := dec_err hg
          have hx0 : ¬ (x : Int) = 0 := by omega
          have hend : ∀ w2 : World, Below wr.heap.size wr w2 → GotLB_int w (decList dec 1 bs) (.returned (.tuple #[.slice none 0 0, .int .i64 0, .int .i64 (x : Int)])) w2 := by
            intro w2 hb2
            obtain ⟨d, hdd⟩ : ∃ d, k - i = d + 1 := ⟨k - i - 1, by omega⟩
            rw [HR.out, hdm, hdd, pre_err hg]
            exact ⟨rfl, bc hb hb2⟩
          have HEND := Lib.hid hend; clear hend
          have HX := Lib.hid hx; clear hx
          have HM := Lib.hid hdm; clear hdm
          have HXS := Lib.hid hxs; clear hxs
          by_cases hcu : c = to
          · subst hcu
            obtain rfl : n = c := by omega
            have hdn : bs.drop n = [] := List.drop_eq_nil_of_le (by rw [HB.out]; omega)
            rw [hdn] at hg
            have HG := Lib.hid (refGet_err (lies_empty wr wr.heap.size A) hg); clear hg hdn
            go_wp2_with (go_at_call 25; (with_reducible refine HG.out.mono ?_); rintro e w2 ⟨rfl, hb2⟩)
            go_ret3
            exact HEND.out _ hb2
          · have hcu2 : ¬ (c : Int) = to := by omega
            obtain ⟨b, o, rfl⟩ := hl.some_ (by omega)
            have HG := Lib.hid (refGet_err (hlr.drop hto) hg); clear hg
            go_wp2_with (go_at_call 25; (with_reducible refine HG.out.mono ?_); rintro e w2 ⟨rfl, hb2⟩)
            go_ret3
            exact HEND.out _ hb2
        | ok q =>
          obtain ⟨v, m⟩ := q
          have hm := dec_used hg
          have hm3 : to + m ≤ n := by have h1 := HB.out; have h2 := hm; simp at h2; omega
          have hcu : ¬ c = to := by omega
          have hcu2 : ¬ (c : Int) = to := by omega
          obtain ⟨b, o, rfl⟩ := hl.some_ (by omega)
          have HG := Lib.hid (show Calls Try.prog 25 #[.slice (some ⟨b, o + to, none⟩) (n - to) (c - to)] wr fun e w' => e = .returned (.tuple #[.int .i64 v, .int .i64 (m : Int), .int .i64 0]) ∧ Below wr.heap.size wr w' from refGet_ok (hlr.drop hto) hg)
          have fin : ∀ (w2 w' : World) (v' : Value), Below wr.heap.size wr w2 → w'.ownsRow w.heap.size 3 1 v' (i + 1) (xs.map iv ++ [.int .i64 v]) → (w2.alloc (.cells #[.int .i64 v] 3)).grownBy w' u8.ownBlock →
              ∃ (i_1 to_1 : Nat) (xs : List Int), i_1 ≤ k ∧ Value.int .i64 ((i : Int) + 1) = .int .i64 (i_1 : Int) ∧ Value.int .i64 ((to : Int) + (m : Int)) = .int .i64 (to_1 : Int) ∧ xs.length = i_1 ∧ to_1 ≤ n ∧ decMany dec bs k u = pre xs (decMany dec bs (k - i_1) to_1) ∧
                w'.ownsRow w.heap.size 3 1 v' i_1 (xs.map iv) ∧ Below w.heap.size w w' := by
            intro w2 w' v' k1 k2 k3
            have hsz := hb.size
            have hsz2 := k1.size
            refine ⟨i + 1, to + m, xs ++ [v], by omega, by go_num, by go_num, by simp; omega, hm3, ?_, by rw [List.map_append]; exact k2, ?_⟩
            · obtain ⟨d, hdd⟩ : ∃ d, k - i = d + 1 := ⟨k - i - 1, by omega⟩
              rw [hdm, hdd, pre_ok hg, show k - (i + 1) = d by omega]
            · exact ((bc hb k1).alloc (by omega) _).grown k3 (by simp; omega) (fun k hk => (hown.lt k hk).1)
          have FIN := Lib.hid fin; clear fin
          have HMU := Lib.hid hm; clear hm
          have HGG := Lib.hid hg; clear hg
          have HM := Lib.hid hdm; clear hdm
          have HXS := Lib.hid hxs; clear hxs
          have hsz := hb.size
          go_wp2_with (first
            | (go_at_call 25; (with_reducible refine HG.out.mono ?_); rintro e w2 ⟨rfl, hb2⟩)
            | (at_builtin; refine wpList_append_own _ rfl (.tmp 38) (.tmp 40) _ rfl w.heap.size 3 i0 (.int .i64 0) 1 8 Try.underlying22 hi hz0 hz1 hz2 rfl (by decide) _ i _ rfl ((own_below hown hb2).alloc _) ⟨w2.heap.size, 0, none⟩ 1 1 [.int .i64 v] rfl rfl (fresh_one _ _ _) (by intro y hy; simp at hy; subst hy; rfl) (by unfold maxLen; omega) (by omega) (by have := hb2.size; simp; omega) ?_; intro v' w3 ho3 hg3 _))
          go_roundw
          case rel => exact FIN.out _ _ _ hb2 ho3 hg3
          case measure => simp [intOf]; omega
      · obtain rfl : i = k := by omega
        have hend : GotLB_int w (decList dec 1 bs) (.returned (.tuple #[u8, .int .i64 (to : Int), .int .i64 0])) wr := by
          rw [HR.out, hdm, Nat.sub_self, pre_zero]
          subst hxs
          exact ⟨_, rfl, hown, hb⟩
        have HEND := Lib.hid hend; clear hend
        have HM := Lib.hid hdm; clear hdm
        have HXS := Lib.hid hxs; clear hxs
        go_wp2
        go_ret3
        exact HEND.out

/-- A list, and the place behind it; or the error's number. -/
def GotLB_str (w : World) (r : Except Nat (List (List UInt8) × Nat)) (e : Ending) (w' : World) : Prop :=
  match r with
  | .ok (xs, to) => ∃ v, e = .returned (.tuple #[v, .int .i64 (to : Int), .int .i64 0]) ∧ w'.ownsRow w.heap.size 9 1 v xs.length (xs.map sv) ∧ Below w.heap.size w w'
  | .error x => e = .returned (.tuple #[.slice none 0 0, .int .i64 0, .int .i64 (x : Int)]) ∧ Below w.heap.size w w'

set_option maxRecDepth 100000 in
set_option maxHeartbeats 1000000 in
theorem refList_str (bs : List UInt8) (n c : Nat) (A : Option Addr) (w : World) (hl : Lies w w.heap.size 1 A n c (bs.map bv)) (hbs : n ≤ 1099511627776) :
    Calls Try.prog 32 #[.slice A n c] w (GotLB_str w (decList decStr 1 bs)) := by
  have hmost : c ≤ 9223372036854775807 := by have := hl.most; unfold maxLen at this; omega
  have hle := hl.le
  have hbl : bs.length = n := by have := hl.len; simpa using this
  obtain ⟨i0, hi, hz0, hz1, hz2⟩ := info_parts str_info
  cases hd : declen 1 bs with
  | error x =>
    have hx := declen_err hd
    have hx0 : ¬ (x : Int) = 0 := by omega
    have hr : decList decStr 1 bs = .error x := by unfold decList; rw [hd]
    have HC := Lib.hid (refCnt_err hl (size := 1) (by omega) hbs hd); clear hd
    have HR := Lib.hid hr; clear hr
    have HX := Lib.hid hx; clear hx
    have HB := Lib.hid hbl; clear hbl
    go_enter Try.func32, Try.ntmps32
    go_wp2_with (go_at_call 39; refine HC.out.mono ?_; rintro e w1 ⟨rfl, hb⟩)
    go_ret3
    rw [HR.out]
    exact ⟨rfl, hb⟩
  | ok p =>
    obtain ⟨v, u⟩ := p
    obtain ⟨hd1, hv0, hv1⟩ := declen_ok hd
    have hu := dec_used hd1
    obtain ⟨k, rfl⟩ : ∃ k : Nat, v = k := ⟨v.toNat, by omega⟩
    have hk : u + k ≤ n := by simp at hv1; omega
    have hr : decList decStr 1 bs = decMany decStr bs k u := by unfold decList; rw [hd]; simp
    have HC := Lib.hid (refCnt_ok hl (size := 1) (by omega) hbs hd); clear hd
    have HR := Lib.hid hr; clear hr
    have HD := Lib.hid hd1; clear hd1 hv1 hv0
    have HU := Lib.hid hu; clear hu
    have HB := Lib.hid hbl; clear hbl
    go_enter Try.func32, Try.ntmps32
    go_wp2_with (go_at_call 39; refine HC.out.mono ?_; rintro e w1 ⟨rfl, hb1⟩)
    go_loopw [6, 8, 9] (fun av v jv wr => ∃ (i to : Nat) (xs : List (List UInt8)), i ≤ k ∧ jv = .int .i64 (i : Int) ∧ av = .int .i64 (to : Int) ∧ xs.length = i ∧ to ≤ n ∧ decMany decStr bs k u = pre xs (decMany decStr bs (k - i) to) ∧
        wr.ownsRow w.heap.size 9 1 v i (xs.map sv) ∧ Below w.heap.size w wr) (fun _ _ jv _ => (k - (intOf jv)).toNat)
    case atStart => exact ⟨0, u, [], by omega, rfl, rfl, rfl, by omega, by rw [pre_nil]; rfl, World.ownsRow_nil _ _ _ _, hb1⟩
    case round =>
      obtain ⟨i, to, xs, hik, rfl, rfl, hxs, hto, hdm, hown, hb⟩ := hrel
      clear hb1
      by_cases hlt : i < k
      · have hlr := hl.on hb
        cases hg : decStr (bs.drop to) with
        | error x =>
          have hx := decStr_err hg
          have hx0 : ¬ (x : Int) = 0 := by omega
          have hend : ∀ w2 : World, Below wr.heap.size wr w2 → GotLB_str w (decList decStr 1 bs) (.returned (.tuple #[.slice none 0 0, .int .i64 0, .int .i64 (x : Int)])) w2 := by
            intro w2 hb2
            obtain ⟨d, hdd⟩ : ∃ d, k - i = d + 1 := ⟨k - i - 1, by omega⟩
            rw [HR.out, hdm, hdd, pre_err hg]
            exact ⟨rfl, bc hb hb2⟩
          have HEND := Lib.hid hend; clear hend
          have HX := Lib.hid hx; clear hx
          have HM := Lib.hid hdm; clear hdm
          have HXS := Lib.hid hxs; clear hxs
          by_cases hcu : c = to
          · subst hcu
            obtain rfl : n = c := by omega
            have hdn : bs.drop n = [] := List.drop_eq_nil_of_le (by rw [HB.out]; omega)
            rw [hdn] at hg
            have HG := Lib.hid (refStr_err (lies_empty wr wr.heap.size A) (by omega) hg); clear hg hdn
            go_wp2_with (go_at_call 27; (with_reducible refine HG.out.mono ?_); rintro e w2 ⟨rfl, hb2⟩)
            go_ret3
            exact HEND.out _ hb2
          · have hcu2 : ¬ (c : Int) = to := by omega
            obtain ⟨b, o, rfl⟩ := hl.some_ (by omega)
            have HG := Lib.hid (refStr_err (hlr.drop hto) (by omega) hg); clear hg
            go_wp2_with (go_at_call 27; (with_reducible refine HG.out.mono ?_); rintro e w2 ⟨rfl, hb2⟩)
            go_ret3
            exact HEND.out _ hb2
        | ok q =>
          obtain ⟨v, m⟩ := q
          have hm := decStr_used hg
          have hm3 : to + m ≤ n := by have h1 := HB.out; have h2 := hm; simp at h2; omega
          have hcu : ¬ c = to := by omega
          have hcu2 : ¬ (c : Int) = to := by omega
          obtain ⟨b, o, rfl⟩ := hl.some_ (by omega)
          have HG := Lib.hid (show Calls Try.prog 27 #[.slice (some ⟨b, o + to, none⟩) (n - to) (c - to)] wr fun e w' => e = .returned (.tuple #[.string ⟨v.toArray⟩, .int .i64 (m : Int), .int .i64 0]) ∧ Below wr.heap.size wr w' from refStr_ok (hlr.drop hto) (by omega) hg)
          have fin : ∀ (w2 w' : World) (v' : Value), Below wr.heap.size wr w2 → w'.ownsRow w.heap.size 9 1 v' (i + 1) (xs.map sv ++ [.string ⟨v.toArray⟩]) → (w2.alloc (.cells #[.string ⟨v.toArray⟩] 9)).grownBy w' u8.ownBlock →
              ∃ (i_1 to_1 : Nat) (xs : List (List UInt8)), i_1 ≤ k ∧ Value.int .i64 ((i : Int) + 1) = .int .i64 (i_1 : Int) ∧ Value.int .i64 ((to : Int) + (m : Int)) = .int .i64 (to_1 : Int) ∧ xs.length = i_1 ∧ to_1 ≤ n ∧ decMany decStr bs k u = pre xs (decMany decStr bs (k - i_1) to_1) ∧
                w'.ownsRow w.heap.size 9 1 v' i_1 (xs.map sv) ∧ Below w.heap.size w w' := by
            intro w2 w' v' k1 k2 k3
            have hsz := hb.size
            have hsz2 := k1.size
            refine ⟨i + 1, to + m, xs ++ [v], by omega, by go_num, by go_num, by simp; omega, hm3, ?_, by rw [List.map_append]; exact k2, ?_⟩
            · obtain ⟨d, hdd⟩ : ∃ d, k - i = d + 1 := ⟨k - i - 1, by omega⟩
              rw [hdm, hdd, pre_ok hg, show k - (i + 1) = d by omega]
            · exact ((bc hb k1).alloc (by omega) _).grown k3 (by simp; omega) (fun k hk => (hown.lt k hk).1)
          have FIN := Lib.hid fin; clear fin
          have HMU := Lib.hid hm; clear hm
          have HGG := Lib.hid hg; clear hg
          have HM := Lib.hid hdm; clear hdm
          have HXS := Lib.hid hxs; clear hxs
          have hsz := hb.size
          go_wp2_with (first
            | (go_at_call 27; (with_reducible refine HG.out.mono ?_); rintro e w2 ⟨rfl, hb2⟩)
            | (at_builtin; refine wpList_append_own _ rfl (.tmp 38) (.tmp 40) _ rfl w.heap.size 9 i0 (.string ⟨#[]⟩) 1 16 Try.underlying23 hi hz0 hz1 hz2 rfl (by decide) _ i _ rfl ((own_below hown hb2).alloc _) ⟨w2.heap.size, 0, none⟩ 1 1 [.string ⟨v.toArray⟩] rfl rfl (fresh_one _ _ _) (by intro y hy; simp at hy; subst hy; rfl) (by unfold maxLen; omega) (by omega) (by have := hb2.size; simp; omega) ?_; intro v' w3 ho3 hg3 _))
          go_roundw
          case rel => exact FIN.out _ _ _ hb2 ho3 hg3
          case measure => simp [intOf]; omega
      · obtain rfl : i = k := by omega
        have hend : GotLB_str w (decList decStr 1 bs) (.returned (.tuple #[u8, .int .i64 (to : Int), .int .i64 0])) wr := by
          rw [HR.out, hdm, Nat.sub_self, pre_zero]
          subst hxs
          exact ⟨_, rfl, hown, hb⟩
        have HEND := Lib.hid hend; clear hend
        have HM := Lib.hid hdm; clear hdm
        have HXS := Lib.hid hxs; clear hxs
        go_wp2
        go_ret3
        exact HEND.out

end Wire
end Go.Proofs.Ytlpkiaeimcoplaa
