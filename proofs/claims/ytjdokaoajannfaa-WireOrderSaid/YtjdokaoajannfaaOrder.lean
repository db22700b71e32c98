/- The walk of the statement on the order of the integers' encodings. -/
import Derived.Test.YtjdokaoajannfaaInt
import Derived.Test.YtjdokaoajannfaaOrd
import Derived.Deep.RegionWith
import Derived.Deep.RegionHeld3
namespace Go.Proofs.Ytjdokaoajannfaa
open Go.RowKit
namespace Wire

theorem conv_own {w : World} {base g n c : Nat} {l : List UInt8} (h : w.ownsRow base 5 1 (.slice (some ⟨g, 0, none⟩) n c) n (l.map bv)) (W : World) (hb : Below w.heap.size w W) :
    (convert 28 9 (.slice (some ⟨g, 0, none⟩) n c)).run Try.prog W = .ok (.string ⟨l.toArray⟩) W := by
  have hl := (lies_own h).below hb
  have hn : l.length = n := by have := hl.len; simpa using this
  have := run_convert_bytes_arg (P := Try.prog) (w := W) 28 5 Try.underlying28 Try.underlying5 g 0 n c (l.map fun c => (c.toNat : Int)) (by simpa using hn) ?_ 9 Try.underlying9
  · rw [this, strOf]; rfl
  · intro i hi
    have hx : l[i]? = some (l[i]'(by omega)) := List.getElem?_eq_getElem _
    have hc := hl.cell rfl i _ hx
    rw [hc]
    simp [List.getD, hx]

/-- It is true; the memory that was there is as it was. -/
def YesO (W : World) (e : Ending) (w' : World) : Prop := e = .returned (.bool true) ∧ Below W.heap.size W w'

theorem bcO {w w1 w2 : World} (h1 : Below w.heap.size w w1) (h2 : Below w1.heap.size w1 w2) : Below w.heap.size w w2 := h1.trans (h2.mono h1.size)
theorem bdO {w w1 : World} (h : Below w.drew.heap.size w.drew w1) : Below w.heap.size w w1 := ⟨h.os, h.tape, h.output, h.size, h.block⟩

set_option maxRecDepth 100000 in
set_option maxHeartbeats 4000000 in
theorem order_lt (m n : Int) (hm : -9223372036854775808 ≤ m ∧ m ≤ 9223372036854775807) (hn : -9223372036854775808 ≤ n ∧ n ≤ 9223372036854775807) (w : World) (hsan : ∀ W : World, Calls Try.prog 12 #[] W (YesO W))
    (hc : ((enc m).length : Int) < (enc n).length) :
    Calls Try.prog 5 #[.int .i64 m, .int .i64 n] w (YesO w) := by
  have IM := fun W => Lib.hid (int_any m W hm)
  have IN := fun W => Lib.hid (int_any n W hn)
  have HS := fun W => Lib.hid (hsan W)
  clear hsan
  have hlm := enc_length_le hm
  have hln := enc_length_le hn
  have hlm1 := hlm.1
  have hlm2 := hlm.2
  have hln1 := hln.1
  have hln2 := hln.2
  clear hlm hln
  have q1 : Op.bytesLess (enc m) (enc n) = decide (m < n) := enc_less hm hn
  have q2 : (enc m == enc n) = (m == n) := by
    rw [Bool.eq_iff_iff]; simp [enc_inj hm hn]
  have q3 : (((⟨(enc m).toArray⟩ : ByteArray).extract 0 (enc m).length).toList == ((⟨(enc n).toArray⟩ : ByteArray).extract 0 (enc m).length).toList) = (m == n) := by
    have h := enc_take hm hn
    rw [Nat.min_eq_left (by omega)] at h
    rw [ByteArray.extract_mk, ByteArray.extract_mk, ByteArray.toList_eq, ByteArray.toList_eq]
    rw [Bool.eq_iff_iff]; simpa using h
  have q4 : ((((⟨(enc m).toArray⟩ : ByteArray).extract 0 (enc m).length).toList == ((⟨(enc n).toArray⟩ : ByteArray).extract 0 (enc m).length).toList) == (m == n)) = true := by rw [q3]; simp
  have q1' : Op.bytesLess (⟨(enc m).toArray⟩ : ByteArray).toList (⟨(enc n).toArray⟩ : ByteArray).toList = decide (m < n) := by rw [ByteArray.toList_eq, ByteArray.toList_eq]; exact q1
  have q2' : ((⟨(enc m).toArray⟩ : ByteArray).toList == (⟨(enc n).toArray⟩ : ByteArray).toList) = (m == n) := by rw [ByteArray.toList_eq, ByteArray.toList_eq]; exact q2
  have Q4 := Lib.hid q4
  clear q4 q3
  have i0 : (0 : Int) ≤ ((enc m).length : Int) := by omega
  have i1 : ((enc m).length : Int) ≤ ((enc m).length : Int) := by omega
  have i2 : ((enc m).length : Int) ≤ ((enc n).length : Int) := by omega
  go_enter Try.func5, Try.ntmps5
  go_wp2
  go_region_with (first
    | (go_at_call 14; (with_reducible refine (IM _).out.mono ?_); rintro e wm ⟨gm, capm, rfl, hom, hbm⟩; have hcm := conv_own hom; have hrm := Below.refl wm.heap.size wm)
    | (go_at_call 14; (with_reducible refine (IN _).out.mono ?_); rintro e wn ⟨gn, capn, rfl, hon, hbn⟩; have hcn := conv_own hon; have hrn := Below.refl wn.heap.size wn))
  all_goals
    have hz := by first | exact bcO (bdO hbm) hbn | exact bcO (bdO hbn) hbm | exact bcO hbm hbn | exact bcO hbn hbm
    go_wp2
    go_region_held3 (fun _ => True) (trivial) (first | (go_at_call 12; refine (HS _).out.mono ?_; rintro e w4 ⟨rfl, hb4⟩))
    all_goals
      go_wp2
      go_ret
      exact ⟨congrArg (fun b => Ending.returned (.bool b)) Q4.out, by first | exact bcO hz hb4 | exact bcO hz (bdO hb4)⟩

set_option maxRecDepth 100000 in
set_option maxHeartbeats 4000000 in
theorem order_gt (m n : Int) (hm : -9223372036854775808 ≤ m ∧ m ≤ 9223372036854775807) (hn : -9223372036854775808 ≤ n ∧ n ≤ 9223372036854775807) (w : World) (hsan : ∀ W : World, Calls Try.prog 12 #[] W (YesO W))
    (hc : ((enc n).length : Int) < (enc m).length) :
    Calls Try.prog 5 #[.int .i64 m, .int .i64 n] w (YesO w) := by
  have IM := fun W => Lib.hid (int_any m W hm)
  have IN := fun W => Lib.hid (int_any n W hn)
  have HS := fun W => Lib.hid (hsan W)
  clear hsan
  have hlm := enc_length_le hm
  have hln := enc_length_le hn
  have hlm1 := hlm.1
  have hlm2 := hlm.2
  have hln1 := hln.1
  have hln2 := hln.2
  clear hlm hln
  have q1 : Op.bytesLess (enc m) (enc n) = decide (m < n) := enc_less hm hn
  have q2 : (enc m == enc n) = (m == n) := by
    rw [Bool.eq_iff_iff]; simp [enc_inj hm hn]
  have q3 : (((⟨(enc m).toArray⟩ : ByteArray).extract 0 (enc n).length).toList == ((⟨(enc n).toArray⟩ : ByteArray).extract 0 (enc n).length).toList) = (m == n) := by
    have h := enc_take hm hn
    rw [Nat.min_eq_right (by omega)] at h
    rw [ByteArray.extract_mk, ByteArray.extract_mk, ByteArray.toList_eq, ByteArray.toList_eq]
    rw [Bool.eq_iff_iff]; simpa using h
  have q4 : ((((⟨(enc m).toArray⟩ : ByteArray).extract 0 (enc n).length).toList == ((⟨(enc n).toArray⟩ : ByteArray).extract 0 (enc n).length).toList) == (m == n)) = true := by rw [q3]; simp
  have q1' : Op.bytesLess (⟨(enc m).toArray⟩ : ByteArray).toList (⟨(enc n).toArray⟩ : ByteArray).toList = decide (m < n) := by rw [ByteArray.toList_eq, ByteArray.toList_eq]; exact q1
  have q2' : ((⟨(enc m).toArray⟩ : ByteArray).toList == (⟨(enc n).toArray⟩ : ByteArray).toList) = (m == n) := by rw [ByteArray.toList_eq, ByteArray.toList_eq]; exact q2
  have Q4 := Lib.hid q4
  clear q4 q3
  have i0 : (0 : Int) ≤ ((enc n).length : Int) := by omega
  have i1 : ((enc n).length : Int) ≤ ((enc m).length : Int) := by omega
  have i2 : ((enc n).length : Int) ≤ ((enc n).length : Int) := by omega
  go_enter Try.func5, Try.ntmps5
  go_wp2
  go_region_with (first
    | (go_at_call 14; (with_reducible refine (IM _).out.mono ?_); rintro e wm ⟨gm, capm, rfl, hom, hbm⟩; have hcm := conv_own hom; have hrm := Below.refl wm.heap.size wm)
    | (go_at_call 14; (with_reducible refine (IN _).out.mono ?_); rintro e wn ⟨gn, capn, rfl, hon, hbn⟩; have hcn := conv_own hon; have hrn := Below.refl wn.heap.size wn))
  all_goals
    have hz := by first | exact bcO (bdO hbm) hbn | exact bcO (bdO hbn) hbm | exact bcO hbm hbn | exact bcO hbn hbm
    go_wp2
    go_region_held3 (fun _ => True) (trivial) (first | (go_at_call 12; refine (HS _).out.mono ?_; rintro e w4 ⟨rfl, hb4⟩))
    all_goals
      go_wp2
      go_ret
      exact ⟨congrArg (fun b => Ending.returned (.bool b)) Q4.out, by first | exact bcO hz hb4 | exact bcO hz (bdO hb4)⟩

set_option maxRecDepth 100000 in
set_option maxHeartbeats 4000000 in
theorem order_eq (m n : Int) (hm : -9223372036854775808 ≤ m ∧ m ≤ 9223372036854775807) (hn : -9223372036854775808 ≤ n ∧ n ≤ 9223372036854775807) (w : World) (hsan : ∀ W : World, Calls Try.prog 12 #[] W (YesO W))
    (hc : (enc m).length = (enc n).length) :
    Calls Try.prog 5 #[.int .i64 m, .int .i64 n] w (YesO w) := by
  have IM := fun W => Lib.hid (int_any m W hm)
  have IN := fun W => Lib.hid (int_any n W hn)
  have HS := fun W => Lib.hid (hsan W)
  clear hsan
  have hlm := enc_length_le hm
  have hln := enc_length_le hn
  have hlm1 := hlm.1
  have hlm2 := hlm.2
  have hln1 := hln.1
  have hln2 := hln.2
  clear hlm hln
  have q1 : Op.bytesLess (enc m) (enc n) = decide (m < n) := enc_less hm hn
  have q2 : (enc m == enc n) = (m == n) := by
    rw [Bool.eq_iff_iff]; simp [enc_inj hm hn]
  have q3 : (((⟨(enc m).toArray⟩ : ByteArray).extract 0 (enc n).length).toList == ((⟨(enc n).toArray⟩ : ByteArray).extract 0 (enc n).length).toList) = (m == n) := by
    have h := enc_take hm hn
    rw [Nat.min_eq_right (by omega)] at h
    rw [ByteArray.extract_mk, ByteArray.extract_mk, ByteArray.toList_eq, ByteArray.toList_eq]
    rw [Bool.eq_iff_iff]; simpa using h
  have q4 : ((((⟨(enc m).toArray⟩ : ByteArray).extract 0 (enc n).length).toList == ((⟨(enc n).toArray⟩ : ByteArray).extract 0 (enc n).length).toList) == (m == n)) = true := by rw [q3]; simp
  have q1' : Op.bytesLess (⟨(enc m).toArray⟩ : ByteArray).toList (⟨(enc n).toArray⟩ : ByteArray).toList = decide (m < n) := by rw [ByteArray.toList_eq, ByteArray.toList_eq]; exact q1
  have q2' : ((⟨(enc m).toArray⟩ : ByteArray).toList == (⟨(enc n).toArray⟩ : ByteArray).toList) = (m == n) := by rw [ByteArray.toList_eq, ByteArray.toList_eq]; exact q2
  have Q4 := Lib.hid q4
  clear q4 q3
  have i0 : (0 : Int) ≤ ((enc n).length : Int) := by omega
  have i1 : ((enc n).length : Int) ≤ ((enc m).length : Int) := by omega
  have i2 : ((enc n).length : Int) ≤ ((enc n).length : Int) := by omega
  have IM2 := fun W => Lib.hid (show Calls Try.prog 14 #[.int .i64 m] W (Made W (enc n).length (enc m)) by rw [← hc]; exact (IM W).out)
  replace IM := IM2
  clear IM2
  go_enter Try.func5, Try.ntmps5
  go_wp2
  go_region_with (first
    | (go_at_call 14; (with_reducible refine (IM _).out.mono ?_); rintro e wm ⟨gm, capm, rfl, hom, hbm⟩; have hcm := conv_own hom; have hrm := Below.refl wm.heap.size wm)
    | (go_at_call 14; (with_reducible refine (IN _).out.mono ?_); rintro e wn ⟨gn, capn, rfl, hon, hbn⟩; have hcn := conv_own hon; have hrn := Below.refl wn.heap.size wn))
  all_goals
    have hz := by first | exact bcO (bdO hbm) hbn | exact bcO (bdO hbn) hbm | exact bcO hbm hbn | exact bcO hbn hbm
    go_wp2
    go_region_held3 (fun _ => True) (trivial) (first | (go_at_call 12; refine (HS _).out.mono ?_; rintro e w4 ⟨rfl, hb4⟩))
    all_goals
      go_wp2
      go_ret
      exact ⟨congrArg (fun b => Ending.returned (.bool b)) Q4.out, by first | exact bcO hz hb4 | exact bcO hz (bdO hb4)⟩

theorem order_any (m n : Int) (hm : -9223372036854775808 ≤ m ∧ m ≤ 9223372036854775807) (hn : -9223372036854775808 ≤ n ∧ n ≤ 9223372036854775807) (w : World) (hsan : ∀ W : World, Calls Try.prog 12 #[] W (YesO W)) :
    Calls Try.prog 5 #[.int .i64 m, .int .i64 n] w (YesO w) := by
  rcases Nat.lt_trichotomy (enc m).length (enc n).length with hc | hc | hc
  · exact order_lt m n hm hn w hsan (by omega)
  · exact order_eq m n hm hn w hsan hc
  · exact order_gt m n hm hn w hsan (by omega)

end Wire
end Go.Proofs.Ytjdokaoajannfaa
