/- What wire.list returns of digests. Condition: the slice's cells are bytes and lie where they are said to lie; there are at most 2^40. -/
import Derived.Test.YtlpkiaeimcoplaaCloD
import Derived.Test.YtlpkiaeimcoplaaStr
import Derived.Test.YtlpkiaeimcoplaaNumB
import Derived.Deep.QuietTactic
import Derived.BigQuiet
namespace Go.Proofs.Ytlpkiaeimcoplaa
open Go.RowKit
namespace Wire

theorem dig_info : (Try.prog.info? 57).map (fun i => (i.zero, i.size, i.bytes)) = some (some (.agg zero16.toArray), 16, 16) := by kernel_rfl

def digCells (xs : List (List UInt8)) : List Value := xs.flatMap (·.map bv)
/-- A digest at the beginning of a byte sequence that contains one. -/
def decDig (bs : List UInt8) : Except Nat (List UInt8 × Nat) := .ok (bs.take 16, 16)

theorem made_zero (m : Nat) : (madeCells zero16.toArray m).toList = List.replicate m (Value.int .u8 0) := by
  have hz : zero16.toArray = Array.replicate 16 (Value.int .u8 0) := rfl
  apply List.ext_getElem?
  intro j
  by_cases hj : j < m
  · have h16 : j % 16 < 16 := Nat.mod_lt _ (by omega)
    simp [madeCells, hj, hz, h16]
  · simp [madeCells, hj]

def setMany (xs : List Value) : Nat → List Value → List Value
  | _, [] => xs
  | o, v :: r => setMany (xs.set o v) (o + 1) r
theorem setMany_rep : ∀ (vs a z : List Value) (b : List Value), b.length = vs.length → setMany (a ++ (b ++ z)) a.length vs = a ++ (vs ++ z)
  | [], a, z, b, h => by
    have : b = [] := List.eq_nil_of_length_eq_zero h
    subst this; rfl
  | v :: r, a, z, b, h => by
    cases b with
    | nil => simp at h
    | cons b0 b1 =>
      simp only [setMany]
      have e : (a ++ (b0 :: b1 ++ z)).set a.length v = (a ++ [v]) ++ (b1 ++ z) := by simp
      have e2 : a.length + 1 = (a ++ [v]).length := by simp
      rw [e, e2, setMany_rep r (a ++ [v]) z b1 (by simpa using h)]
      simp

theorem own_setCells {base : Nat} {e : TypeId} {size g n c : Nat} : ∀ (vs : List Value) (o : Nat) (w : World) (xs : List Value), w.ownsRow base e size (.slice (some ⟨g, 0, none⟩) n c) n xs →
    (w.setCells g o vs).ownsRow base e size (.slice (some ⟨g, 0, none⟩) n c) n (setMany xs o vs) ∧ w.grownBy (w.setCells g o vs) (some g)
  | [], _, w, _, h => ⟨h, World.grownBy.refl w _⟩
  | v :: r, o, w, xs, h => by
    obtain ⟨h1, h2⟩ := h.stored o v
    obtain ⟨h3, h4⟩ := own_setCells r (o + 1) (w.setCell ⟨g, o, none⟩ v) (xs.set o v) h1
    exact ⟨h3, h4.os.trans h2.os, h4.tape.trans h2.tape, h4.output.trans h2.output, Nat.le_trans h2.size h4.size, fun k hk hne => (h4.block k (Nat.lt_of_lt_of_le hk h2.size) hne).trans (h2.block k hk hne)⟩

theorem own_there {w : World} {base : Nat} {e : TypeId} {size g n c : Nat} {xs : List Value} (h : w.ownsRow base e size (.slice (some ⟨g, 0, none⟩) n c) n xs) {o m : Nat} (ho : o + m ≤ n * size) : w.there g o m := by
  intro j hj
  refine ⟨?_, h.frozenAt _⟩
  rw [h.cellAt _ (by omega), List.getElem?_eq_getElem (by rw [h.1]; omega)]
  rfl

theorem Boxes.step {w wr w2 : World} {fn : FuncId} {A : Option Addr} {n c to to' : Nat} (h : Boxes w wr fn A n c to) (hg : wr.grownBy w2 (some (w.heap.size + 1 + 1)))
    (hc : w2.cell? ⟨w.heap.size + 1 + 1, 0, none⟩ = some (.int .i64 (to' : Int))) (hf : w2.frozen? ⟨w.heap.size + 1 + 1, 0, none⟩ = false) : Boxes w w2 fn A n c to' := by
  have hs := h.size
  refine ⟨?_, ?_, hc, hf, h.below.grown hg (by omega) (fun k hk => by simp at hk; omega), Nat.lt_of_lt_of_le hs hg.size⟩
  · rw [World.cell?_of_block (w := wr) (hg.block w.heap.size (by omega) (by simp; omega))]; exact h.sl
  · rw [World.cell?_of_block (w := wr) (hg.block (w.heap.size + 1) (by omega) (by simp))]; exact h.fn_

theorem digCells_snoc (xs : List (List UInt8)) (d : List UInt8) : digCells (xs ++ [d]) = digCells xs ++ d.map bv := by simp [digCells]
theorem set_dig (xs : List (List UInt8)) (d : List UInt8) {k i : Nat} (hd : d.length = 16) (hl : (digCells xs).length = i * 16) (hk : i < k) :
    setMany (digCells xs ++ List.replicate ((k - i) * 16) (Value.int .u8 0)) (i * 16) (d.map bv) = digCells (xs ++ [d]) ++ List.replicate ((k - (i + 1)) * 16) (Value.int .u8 0) := by
  have e : List.replicate ((k - i) * 16) (Value.int .u8 0) = List.replicate 16 (Value.int .u8 0) ++ List.replicate ((k - (i + 1)) * 16) (Value.int .u8 0) := by
    rw [List.replicate_append_replicate]; congr 1; omega
  rw [e, ← hl, setMany_rep (d.map bv) (digCells xs) _ _ (by simp [hd]), digCells_snoc, List.append_assoc]

/-- A new list of digests is returned, and the place behind it; or the error's number. -/
def GotL_dig (w : World) (r : Except Nat (List (List UInt8) × Nat)) (e : Ending) (w' : World) : Prop :=
  match r with
  | .ok (xs, to) => ∃ g, e = .returned (.tuple #[.slice (some ⟨g, 0, none⟩) xs.length xs.length, .int .i64 (to : Int), .int .i64 0]) ∧
      w'.ownsRow w.heap.size 57 16 (.slice (some ⟨g, 0, none⟩) xs.length xs.length) xs.length (digCells xs) ∧ Below w.heap.size w w'
  | .error x => e = .returned (.tuple #[.slice none 0 0, .int .i64 0, .int .i64 (x : Int)]) ∧ Below w.heap.size w w'

set_option maxRecDepth 100000 in
set_option maxHeartbeats 1000000 in
theorem list_dig (bs : List UInt8) (n c : Nat) (A : Option Addr) (w : World) (hl : Lies w w.heap.size 1 A n c (bs.map bv)) (hbs : n ≤ 1099511627776) :
    Calls Try.prog 42 #[.slice A n c, .int .i64 16, .func (.func 43) #[] #[]] w (GotL_dig w (decList decDig 16 bs)) := by
  have hmost : c ≤ 9223372036854775807 := by have := hl.most; unfold maxLen at this; omega
  have hle := hl.le
  have hbl : bs.length = n := by have := hl.len; simpa using this
  obtain ⟨i0, hi, hz0, hz1, hz2⟩ := info_parts dig_info
  have hmf : ∀ (fn : Fn) (first cap : Array Value) (w : World), (Instr.makeFunc fn first cap).run Try.prog w = .ok (.func fn first cap) w := fun _ _ _ _ => rfl
  have hlb : Lies ((w.alloc (.cells #[.slice A n c] 28)).alloc (.cells #[.func (.func 43) #[] #[]] 64)) w.heap.size 1 A n c (bs.map bv) :=
    hl.keep fun p hp => (((Below.refl w.heap.size w).alloc (Nat.le_refl _) _).alloc (by simp) _).cell hp
  cases hd : declen 16 bs with
  | error x =>
    have hx := declen_err hd
    have hx0 : ¬ (x : Int) = 0 := by omega
    have hr : decList decDig 16 bs = .error x := by unfold decList; rw [hd]
    have hcl := len_err hlb (size := 16) (by omega) hd
    have HC := Lib.hid hcl; clear hcl hd
    have HR := Lib.hid hr; clear hr
    have HX := Lib.hid hx; clear hx
    have HB := Lib.hid hbl; clear hbl
    go_enter Try.func42, Try.ntmps42
    go_wp2_with (go_at_call 38; refine HC.out.mono ?_; rintro e w' ⟨rfl, rfl⟩)
    go_ret3
    rw [HR.out]
    exact ⟨rfl, ((((Below.refl _ _).alloc (Nat.le_refl _) _).alloc (by simp) _).alloc (by simp; omega) _)⟩
  | ok p =>
    obtain ⟨v, u⟩ := p
    obtain ⟨hd1, hv0, hv1⟩ := declen_ok hd
    have hu := dec_used hd1
    obtain ⟨k, rfl⟩ : ∃ k : Nat, v = k := ⟨v.toNat, by omega⟩
    have hk : u + 16 * k ≤ n := by simp only [hbl] at hv1; omega
    have hr : decList decDig 16 bs = decMany decDig bs k u := by unfold decList; rw [hd]; simp
    have hcl := len_ok hlb (size := 16) (by omega) hd
    have HC := Lib.hid hcl; clear hcl hd
    have HR := Lib.hid hr; clear hr
    have HD := Lib.hid hd1; clear hd1 hv1 hv0
    have HU := Lib.hid hu; clear hu
    have HB := Lib.hid hbl; clear hbl
    go_enter Try.func42, Try.ntmps42
    go_wp2_with (first
      | (go_at_call 38; refine HC.out.mono ?_; rintro e w' ⟨rfl, rfl⟩)
      | (at_make; refine wpList_make_full _ rfl _ _ 24 rfl (w.heap.size + 1 + 1 + 1) 57 i0 (.agg zero16.toArray) 16 Try.underlying24 hi hz0 hz1 .i64 .i64 _ _ k rfl rfl rfl rfl (by rw [hz2]; omega) (by unfold maxLen; omega) (by simp only [size_alloc]; omega) ?_; intro w4 hown4 hg4))
    have hbx := boxes_start w w4 43 A n c u _ _ _ hg4
    have hown5 : w4.ownsRow (w.heap.size + 1 + 1 + 1) 57 16 (.slice (some ⟨w.heap.size + 1 + 1 + 1, 0, none⟩) k k) k (List.replicate (k * 16) (.int .u8 0)) := by
      have h := hown4
      rw [show (Value.agg zero16.toArray).cells = zero16.toArray from rfl, made_zero] at h
      simpa only [size_alloc] using h
    clear hown4 hg4
    go_wp2
    go_loopw [30] (fun jv wr => ∃ (i to : Nat) (xs : List (List UInt8)), i ≤ k ∧ jv = .int .i64 (i : Int) ∧ xs.length = i ∧ (digCells xs).length = i * 16 ∧ to = u + 16 * i ∧ decMany decDig bs k u = pre xs (decMany decDig bs (k - i) to) ∧ Boxes w wr 43 A n c to ∧
        wr.ownsRow (w.heap.size + 1 + 1 + 1) 57 16 (.slice (some ⟨w.heap.size + 1 + 1 + 1, 0, none⟩) k k) k (digCells xs ++ List.replicate ((k - i) * 16) (.int .u8 0))) (fun jv _ => (k - (intOf jv)).toNat)
    case atStart => exact ⟨0, u, [], by omega, rfl, rfl, rfl, by omega, by rw [pre_nil]; rfl, hbx, by simpa [digCells] using hown5⟩
    case round =>
      obtain ⟨i, to, xs, hik, rfl, hxs, hxl, hto, hdm, hbr, hown⟩ := hrel
      clear hown5 hbx
      by_cases hlt : i < k
      · have hlr : Lies wr w.heap.size 1 A n c (bs.map bv) := hl.below hbr.below
        obtain ⟨cs, hcsd⟩ : ∃ cs, cs = ((bs.drop to).take 16).map bv := ⟨_, rfl⟩
        have hcs : cs.length = 16 := by rw [hcsd]; have := HB.out; simp; omega
        have hszr : w.heap.size ≤ wr.heap.size := hbr.below.size
        have hcl : Calls Try.prog 46 #[.pointer (some ⟨w.heap.size + 1, 0, none⟩), .pointer (some ⟨w.heap.size, 0, none⟩), .pointer (some ⟨w.heap.size + 1 + 1, 0, none⟩)] wr (CloD wr (w.heap.size + 1 + 1) (.agg cs.toArray) (to + 16)) := by
          rw [hcsd]
          exact clo_dig bs n c A wr _ hlr hszr _ _ _ to hbr.fn_ hbr.sl hbr.to_ hbr.free (by omega)
        have hth : ∀ w2 : World, wr.grownBy w2 (some (w.heap.size + 1 + 1)) → w2.there (w.heap.size + 1 + 1 + 1) (i * 16) 16 := fun w2 hg =>
          own_there (hown.kept hg (.inr (by simp [Value.ownBlock]))) (by have : (i + 1) * 16 ≤ k * 16 := Nat.mul_le_mul_right _ hlt; omega)
        have hone : ∀ v ∈ cs, v.oneCell' = true := by rw [hcsd]; exact bytes_one _
        have hend : ∀ w2 : World, wr.grownBy w2 (some (w.heap.size + 1 + 1)) → w2.cell? ⟨w.heap.size + 1 + 1, 0, none⟩ = some (.int .i64 ((to + 16 : Nat) : Int)) → w2.frozen? ⟨w.heap.size + 1 + 1, 0, none⟩ = false →
            ∃ (i_1 to : Nat) (xs : List (List UInt8)), i_1 ≤ k ∧ Value.int .i64 ((i : Int) + 1) = .int .i64 (i_1 : Int) ∧ xs.length = i_1 ∧ (digCells xs).length = i_1 * 16 ∧ to = u + 16 * i_1 ∧ decMany decDig bs k u = pre xs (decMany decDig bs (k - i_1) to) ∧ Boxes w (w2.setCells (w.heap.size + 1 + 1 + 1) (i * 16) cs) 43 A n c to ∧
              (w2.setCells (w.heap.size + 1 + 1 + 1) (i * 16) cs).ownsRow (w.heap.size + 1 + 1 + 1) 57 16 (.slice (some ⟨w.heap.size + 1 + 1 + 1, 0, none⟩) k k) k (digCells xs ++ List.replicate ((k - i_1) * 16) (.int .u8 0)) := by
          intro w2 hg hc hf
          have h3 := hbr.step hg hc hf
          obtain ⟨h4, h5⟩ := own_setCells cs (i * 16) w2 _ (hown.kept hg (.inr (by simp [Value.ownBlock])))
          have hdl : ((bs.drop to).take 16).length = 16 := by have := HB.out; simp; omega
          refine ⟨i + 1, to + 16, xs ++ [(bs.drop to).take 16], by omega, by go_num, by simp; omega, ?_, by omega, ?_, h3.far (by omega) h5, ?_⟩
          · rw [digCells_snoc, List.length_append, hxl, List.length_map, hdl]; omega
          · obtain ⟨d, hdd⟩ : ∃ d, k - i = d + 1 := ⟨k - i - 1, by omega⟩
            rw [hdm, hdd, pre_ok (g := decDig) rfl, show k - (i + 1) = d by omega]
          · rw [← set_dig xs _ hdl hxl hlt, ← hcsd]; exact h4
        have hsz : cs.toArray.size = 16 := by rw [List.size_toArray]; exact hcs
        have HSZ := Lib.hid hsz; clear hsz
        have HCS := Lib.hid hcs; clear hcs
        have HCL := Lib.hid hcl; clear hcl
        have HEND := Lib.hid hend; clear hend
        have HTH := Lib.hid hth; clear hth
        have HM := Lib.hid hdm; clear hdm
        have HXS := Lib.hid hxs; clear hxs
        have HXL := Lib.hid hxl; clear hxl
        have HCSD := Lib.hid hcsd; clear hcsd
        have HTO := Lib.hid hto; clear hto
        go_wp2_with (first
          | (go_at_call 46; refine HCL.out.mono ?_; rintro e w2 ⟨rfl, hg2, hc2, hf2⟩; have HC2 := Lib.hid hc2; clear hc2; have HF2 := Lib.hid hf2; clear hf2)
          | ((with_reducible refine at_store 57 (.tmp 40) (.tmp 38) rfl ?_); refine wpList_store_mid rfl 57 (.tmp 40) (.tmp 38) rfl (w.heap.size + 1 + 1 + 1) (i * 16) cs.toArray rfl rfl (there_of (HTH.out _ hg2) HSZ.out) (dig_size_of HSZ.out) (all_oneCell_toArray hone) ?_))
        go_roundw
        case rel => exact HEND.out _ hg2 HC2.out HF2.out
        case measure => simp [intOf]; omega
      · obtain rfl : i = k := by omega
        have hto2 := hbr.to_
        have hend : ∀ nq, GotL_dig w (decList decDig 16 bs) (.returned (.tuple #[.slice (some ⟨w.heap.size + 1 + 1 + 1, 0, none⟩) i i, .int .i64 (to : Int), .int .i64 0])) (wr.drewN nq) := by
          intro nq
          rw [HR.out, hdm, Nat.sub_self, pre_zero]
          have h := hown
          rw [Nat.sub_self, Nat.zero_mul, List.replicate_zero, List.append_nil] at h
          subst hxs
          have hb := hbr.below
          exact ⟨_, rfl, own_more h (by omega), ⟨hb.os, hb.tape, hb.output, hb.size, hb.block⟩⟩
        have HEND := Lib.hid hend; clear hend
        have HM := Lib.hid hdm; clear hdm
        have HXS := Lib.hid hxs; clear hxs
        have HXL := Lib.hid hxl; clear hxl
        have HTO := Lib.hid hto; clear hto
        go_wp2
        go_quiet (fail)
        go_wp2
        go_ret3
        exact HEND.out _

end Wire
end Go.Proofs.Ytlpkiaeimcoplaa
