/- What the reference's count and GetBytes return. Condition: the slice's cells are bytes and lie where they are said to lie; there are at most 2^40; the size is 1 to 16. -/
import Derived.Test.YtlpkiaeimcoplaaRefGet
namespace Go.Proofs.Ytlpkiaeimcoplaa
open Go.RowKit
namespace Wire

set_option maxRecDepth 100000 in
set_option maxHeartbeats 400000 in
theorem refCnt_any (bs : List UInt8) (n c : Nat) (A : Option Addr) (w : World) (size : Nat) (hl : Lies w w.heap.size 1 A n c (bs.map bv)) (hs : 1 ≤ size ∧ size ≤ 16) (hbs : n ≤ 1099511627776) :
    Calls Try.prog 39 #[.slice A n c, .int .i64 (size : Int)] w (GotB w (declen size bs)) := by
  have hmost : c ≤ 9223372036854775807 := by have := hl.most; unfold maxLen at this; omega
  have hle := hl.le
  have hbl : bs.length = n := by have := hl.len; simpa using this
  obtain ⟨hs1, hs2⟩ := hs
  cases hd : dec bs with
  | error x =>
    have hx := dec_err hd
    have hx0 : ¬ (x : Int) = 0 := by omega
    have hr : declen size bs = .error x := by unfold declen; rw [hd]
    have HG := Lib.hid (refGet_err hl hd); clear hd
    have HR := Lib.hid hr; clear hr
    have HX := Lib.hid hx; clear hx
    have HB := Lib.hid hbl; clear hbl
    go_enter Try.func39, Try.ntmps39
    go_wp2_with (go_at_call 25; (with_reducible refine HG.out.mono ?_); rintro e w1 ⟨rfl, hb⟩)
    go_ret3
    exact ⟨by rw [HR.out]; rfl, hb⟩
  | ok p =>
    obtain ⟨v, u⟩ := p
    have hu := dec_used hd
    have hu2 : u ≤ n := by omega
    have hv := (dec_ok hd).2.2
    have HG := Lib.hid (refGet_ok hl hd)
    have HB := Lib.hid hbl; clear hbl
    by_cases hv0 : v < 0
    · have hr : declen size bs = .error 6 := by unfold declen; rw [hd]; simp only; rw [if_pos hv0]
      have HR := Lib.hid hr; clear hr hd
      go_enter Try.func39, Try.ntmps39
      go_wp2_with (go_at_call 25; (with_reducible refine HG.out.mono ?_); rintro e w1 ⟨rfl, hb⟩)
      go_ret3
      exact ⟨by rw [HR.out]; rfl, hb⟩
    · obtain ⟨k, rfl⟩ : ∃ k : Nat, v = k := ⟨v.toNat, by omega⟩
      by_cases hq : ((n - u) / size : Nat) < (k : Int)
      · have hr : declen size bs = .error 5 := by unfold declen; rw [hd]; simp only; rw [if_neg hv0, HB.out, if_pos hq]
        have HR := Lib.hid hr; clear hr hd
        have hm : n - u < k * size := by
          have h1 : (n - u) / size < k := by omega
          exact (Nat.div_lt_iff_lt_mul (by omega)).1 h1
        clear hq
        by_cases hkn : (n : Int) < k
        · go_enter Try.func39, Try.ntmps39
          go_wp2_with (go_at_call 25; (with_reducible refine HG.out.mono ?_); rintro e w1 ⟨rfl, hb⟩)
          go_ret3
          exact ⟨by rw [HR.out]; rfl, hb⟩
        · obtain ⟨ks, hks⟩ : ∃ ks, ks = k * size := ⟨_, rfl⟩
          have hksi : (k : Int) * size = (ks : Int) := by rw [hks]; simp
          have hkb : ks ≤ 17592186044416 := by
            rw [hks]
            have : k * size ≤ 1099511627776 * 16 := Nat.mul_le_mul (by omega) hs2
            omega
          rw [← hks] at hm
          have hm2 : (n : Int) - u < ks := by omega
          have HK := Lib.hid hks; clear hks
          go_enter Try.func39, Try.ntmps39
          go_wp2_with (go_at_call 25; (with_reducible refine HG.out.mono ?_); rintro e w1 ⟨rfl, hb⟩)
          go_ret3
          exact ⟨by rw [HR.out]; rfl, hb⟩
      · have hr : declen size bs = .ok ((k : Int), u) := by unfold declen; rw [hd]; simp only; rw [if_neg hv0, HB.out, if_neg hq]
        have HR := Lib.hid hr; clear hr hd
        have hm : k * size ≤ n - u := by
          have h1 : k ≤ (n - u) / size := by omega
          exact (Nat.le_div_iff_mul_le (by omega)).1 h1
        clear hq
        obtain ⟨ks, hks⟩ : ∃ ks, ks = k * size := ⟨_, rfl⟩
        have hksi : (k : Int) * size = (ks : Int) := by rw [hks]; simp
        have hkk : k ≤ ks := by rw [hks]; exact Nat.le_mul_of_pos_right _ hs1
        rw [← hks] at hm
        have hm2 : ¬ (n : Int) - u < ks := by omega
        have hkn : ¬ (n : Int) < k := by omega
        have HK := Lib.hid hks; clear hks
        go_enter Try.func39, Try.ntmps39
        go_wp2_with (go_at_call 25; (with_reducible refine HG.out.mono ?_); rintro e w1 ⟨rfl, hb⟩)
        go_ret3
        exact ⟨by rw [HR.out]; rfl, hb⟩

theorem refCnt_ok {bs : List UInt8} {n c size : Nat} {A : Option Addr} {w : World} {v : Int} {u : Nat} (hl : Lies w w.heap.size 1 A n c (bs.map bv)) (hs : 1 ≤ size ∧ size ≤ 16) (hbs : n ≤ 1099511627776) (h : declen size bs = .ok (v, u)) :
    Calls Try.prog 39 #[.slice A n c, .int .i64 (size : Int)] w fun e w' => e = .returned (.tuple #[.int .i64 v, .int .i64 (u : Int), .int .i64 0]) ∧ Below w.heap.size w w' :=
  (refCnt_any bs n c A w size hl hs hbs).mono fun _ _ ⟨he, hw⟩ => ⟨by rw [he, h]; rfl, hw⟩
theorem refCnt_err {bs : List UInt8} {n c size : Nat} {A : Option Addr} {w : World} {x : Nat} (hl : Lies w w.heap.size 1 A n c (bs.map bv)) (hs : 1 ≤ size ∧ size ≤ 16) (hbs : n ≤ 1099511627776) (h : declen size bs = .error x) :
    Calls Try.prog 39 #[.slice A n c, .int .i64 (size : Int)] w fun e w' => e = .returned (.tuple #[.int .i64 0, .int .i64 0, .int .i64 (x : Int)]) ∧ Below w.heap.size w w' :=
  (refCnt_any bs n c A w size hl hs hbs).mono fun _ _ ⟨he, hw⟩ => ⟨by rw [he, h]; rfl, hw⟩

/-- A text, how many bytes it takes, the error's number; the memory that was there is as it was. -/
def GotSB (w : World) (r : Except Nat (List UInt8 × Nat)) (e : Ending) (w' : World) : Prop := e = .returned (resS r) ∧ Below w.heap.size w w'

set_option maxRecDepth 100000 in
set_option maxHeartbeats 400000 in
theorem refStr_any (bs : List UInt8) (n c : Nat) (A : Option Addr) (w : World) (hl : Lies w w.heap.size 1 A n c (bs.map bv)) (hbs : n ≤ 1099511627776) :
    Calls Try.prog 27 #[.slice A n c] w (GotSB w (decStr bs)) := by
  have hmost : c ≤ 9223372036854775807 := by have := hl.most; unfold maxLen at this; omega
  have hle := hl.le
  have hbl : bs.length = n := by have := hl.len; simpa using this
  cases hd : declen 1 bs with
  | error x =>
    have hx := declen_err hd
    have hx0 : ¬ (x : Int) = 0 := by omega
    have hr : decStr bs = .error x := by unfold decStr; rw [hd]
    have HC := Lib.hid (refCnt_err hl (size := 1) (by omega) hbs hd); clear hd
    have HR := Lib.hid hr; clear hr
    have HX := Lib.hid hx; clear hx
    have HB := Lib.hid hbl; clear hbl
    go_enter Try.func27, Try.ntmps27
    go_wp2_with (go_at_call 39; refine HC.out.mono ?_; rintro e w1 ⟨rfl, hb⟩)
    go_ret3
    exact ⟨by rw [HR.out]; rfl, hb⟩
  | ok p =>
    obtain ⟨v, u⟩ := p
    obtain ⟨hd1, hv0, hv1⟩ := declen_ok hd
    have hu := dec_used hd1
    obtain ⟨k, rfl⟩ : ∃ k : Nat, v = k := ⟨v.toNat, by omega⟩
    have hk : u + k ≤ n := by simp at hv1; omega
    have hu1 := hu.1
    have hr : decStr bs = .ok ((bs.drop u).take k, u + k) := by unfold decStr; rw [hd]; simp
    have HC := Lib.hid (refCnt_ok hl (size := 1) (by omega) hbs hd)
    obtain ⟨b, o, rfl, -, -⟩ := hl.cells (by omega)
    have hcv : ∀ W : World, Below w.heap.size w W → ∀ o', (k = 0 ∨ o' = o + u) → ∀ cc, (convert 28 9 (.slice (some ⟨b, o', none⟩) k cc)).run Try.prog W = .ok (sv ((bs.drop u).take k)) W := by
      intro W hbW o' ho cc
      have hlW := hl.on hbW
      have := run_convert_bytes_arg (P := Try.prog) (w := W) 28 5 Try.underlying28 Try.underlying5 b o' k cc (((bs.drop u).take k).map fun c => (c.toNat : Int)) (by simp; omega) ?_ 9 Try.underlying9
      · rw [this, strOf]
      · intro i hi
        rcases ho with rfl | rfl
        · omega
        · have hx : bs[u + i]? = some (bs[u + i]'(by omega)) := List.getElem?_eq_getElem _
          have hc := hlW.cell rfl (u + i) _ hx
          rw [show o + u + i = o + (u + i) by omega, hc]
          simp [List.getD, List.getElem?_drop, hi, hx]
    clear hd
    have HCV := Lib.hid hcv; clear hcv
    have HR := Lib.hid hr; clear hr
    have HD := Lib.hid hd1; clear hd1 hv1 hv0
    have HU := Lib.hid hu; clear hu
    have HB := Lib.hid hbl; clear hbl
    by_cases hcu : c = u
    · subst hcu
      obtain rfl : k = 0 := by omega
      go_enter Try.func27, Try.ntmps27
      go_wp2_with (go_at_call 39; refine HC.out.mono ?_; rintro e w1 ⟨rfl, hb⟩; have hcv2 := HCV.out w1 hb o (.inl rfl))
      go_ret3
      exact ⟨by rw [HR.out]; rfl, hb⟩
    · have hcu2 : ¬ (c : Int) = u := by omega
      go_enter Try.func27, Try.ntmps27
      go_wp2_with (go_at_call 39; refine HC.out.mono ?_; rintro e w1 ⟨rfl, hb⟩; have hcv2 := HCV.out w1 hb (o + u) (.inr rfl))
      go_ret3
      exact ⟨by rw [HR.out]; rfl, hb⟩

end Wire
end Go.Proofs.Ytlpkiaeimcoplaa
