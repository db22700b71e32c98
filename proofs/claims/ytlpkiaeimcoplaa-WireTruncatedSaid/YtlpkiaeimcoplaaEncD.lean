/- What wire.Digests, wire.GetInts, wire.GetStrings and wire.GetDigests return. Condition: the encoding takes at most 2^47 bytes; there are at most 2^40 to decode. -/
import Derived.Test.YtlpkiaeimcoplaaEncs
import Derived.Test.YtlpkiaeimcoplaaList
import Derived.Test.YtlpkiaeimcoplaaSameD
import Derived.Deep.WholeRow
namespace Go.Proofs.Ytlpkiaeimcoplaa
open Go.RowKit
namespace Wire

theorem wpList_store_new {P : Program} {ops : Array Oper} {rest : List Oper} {o : Oper} {a : Act} {w : World} {Q : Exit → Act → World → Prop} (hgd : o.guard = none) (ty : TypeId) (x y : Operand) (ho : o.op = .store ty x y)
    (t : TypeId) (old cells : Array Value) (hx : a.eval x = .pointer (some ⟨w.heap.size, 0, none⟩)) (hy : a.eval y = .agg cells)
    (hi : (P.info? ty).map (·.size) = some cells.size) (hold : old.size = cells.size) (h1 : cells.all (·.oneCell') = true)
    (h : wpList P ops Q rest (a.put o.dst undef) (w.alloc (.cells cells t))) : wpList P ops Q (o :: rest) a (w.alloc (.cells old t)) := by
  refine wpList_store_row hgd ty x y ho w.heap.size cells hx hy t old (heap_alloc_new w _) hi hold h1 ?_
  rw [World.setRow_alloc_new]
  exact h

theorem fresh_many (w : World) (cs : List Value) (t : TypeId) : ∀ (j : Nat) (u : Value), cs[j]? = some u → (w.alloc (.cells cs.toArray t)).cell? ((⟨w.heap.size, 0, none⟩ : Addr).add j) = some u := by
  intro j u h
  rw [Addr.add_mid, Nat.zero_add]
  refine (cell_of_row (w.alloc (.cells cs.toArray t)) w.heap.size j cs.toArray t (0, 0) (heap_alloc_new w _)).trans ?_
  simpa using h

theorem enc_id (ds : List (List UInt8)) : encList (fun d => d) ds = enc (ds.length : Int) ++ ds.flatMap (fun d => d) := rfl

set_option maxRecDepth 100000 in
set_option maxHeartbeats 1000000 in
theorem digests_any (l : List (List UInt8)) (n c : Nat) (A : Option Addr) (w : World) (hl : Lies w w.heap.size 16 A n c (digCells l)) (hnl : l.length = n) (h16 : ∀ x ∈ l, x.length = 16) (h : (encList (fun d => d) l).length ≤ 140737488355328) :
    Calls Try.prog 22 #[.slice A n c] w (Made w (encList (fun d => d) l).length (encList (fun d => d) l)) := by
  obtain ⟨i0, hi, hz0, hz1, hz2⟩ := info_parts byte_info
  have hmost : c ≤ 9223372036854775807 := by have := hl.most; unfold maxLen at this; omega
  have hle := hl.le
  have hin := int_any (n : Int) w (by omega)
  have hin2 := Lib.hid hin; clear hin
  have HNL := Lib.hid hnl; clear hnl
  have h0 : 1 ≤ (enc (n : Int)).length := by rw [enc_length]; omega
  go_enter Try.func22, Try.ntmps22
  go_wp2_with (go_at_call 14; refine hin2.out.mono ?_; rintro e w1 ⟨g, cap, rfl, hown, hb⟩)
  go_loopw [3, 11] (fun v jv wr => ∃ (i g m cap : Nat), i ≤ n ∧ jv = .int .i64 (i : Int) ∧ v = .slice (some ⟨g, 0, none⟩) m cap ∧ m = (enc (n : Int) ++ (l.take i).flatMap (fun d => d)).length ∧
      wr.ownsRow w.heap.size 5 1 v m ((enc (n : Int) ++ (l.take i).flatMap (fun d => d)).map bv) ∧ Below w.heap.size w wr) (fun _ jv _ => (n - (intOf jv)).toNat)
  case atStart => exact ⟨0, g, _, cap, by omega, rfl, rfl, by simp, by simpa using hown, hb⟩
  case round =>
    obtain ⟨i, g2, m, cap2, hi2, rfl, rfl, hm, hown2, hb2⟩ := hrel
    clear hown hb
    by_cases hlt : i < n
    · obtain ⟨b, o, rfl, hbB, hcx0⟩ := hl.cells (by omega)
      obtain ⟨x, hx⟩ : ∃ x, l[i]? = some x := ⟨l[i]'(by rw [HNL.out]; exact hlt), List.getElem?_eq_getElem _⟩
      have hxl := h16 x (List.mem_of_getElem? hx)
      have hrng : wr.rangeAt b (o + i * 16) (x.map bv) := by
        have h1 := dig_range (w := w) (k := 0) h16 hx hcx0
        intro j v hv
        rw [hb2.cell (p := ⟨b, o + i * 16 + j, none⟩) hbB]
        simpa using h1 j v hv
      have hsn := flat_snoc (fun d => d) l hx
      have hfl := flat_le (fun d => d) l (i + 1)
      have htot : (enc (n : Int)).length + (l.flatMap (fun d => d)).length ≤ 140737488355328 := by have := h; rw [encList, HNL.out, List.length_append] at this; exact this
      have hm2 : m + 16 = (enc (n : Int) ++ (l.take (i + 1)).flatMap (fun d => d)).length := by rw [hsn, hm]; simp [hxl]; omega
      have hbd : m + 16 ≤ 140737488355328 := by rw [hm2, List.length_append]; omega
      have hsx : (x.map bv).toArray.size = 16 := by simp [hxl]
      have hlx : (x.map bv).length = 16 * 1 := by simp [hxl]
      have hix : (Try.prog.info? 57).map (·.size) = some (x.map bv).length := by rw [List.length_map, hxl]; exact dig_size
      have fin : ∀ v' w', w'.ownsRow w.heap.size 5 1 v' (m + 16) ((enc (n : Int) ++ (l.take i).flatMap (fun d => d)).map bv ++ x.map bv) → (wr.alloc (.cells (x.map bv).toArray 57)).grownBy w' (some g2) →
          (∃ (i_1 g m cap : Nat), i_1 ≤ n ∧ Value.int .i64 ((i : Int) + 1) = .int .i64 (i_1 : Int) ∧ v' = .slice (some ⟨g, 0, none⟩) m cap ∧ m = (enc (n : Int) ++ (l.take i_1).flatMap (fun d => d)).length ∧
            w'.ownsRow w.heap.size 5 1 v' m ((enc (n : Int) ++ (l.take i_1).flatMap (fun d => d)).map bv) ∧ Below w.heap.size w w') := by
        intro v' w' h4 h5
        obtain ⟨g', cap', rfl, _⟩ := own_form h4 (by omega)
        refine ⟨i + 1, g', _, cap', by omega, by go_num, rfl, hm2, ?_, ?_⟩
        · rw [hsn, ← List.append_assoc, List.map_append]; exact h4
        · exact (hb2.alloc hb2.size _).grown h5 (by have := hb2.size; simp; omega) (fun k hk => by simp at hk; subst hk; exact (hown2.lt _ rfl).1)
      have FIN := Lib.hid fin; clear fin
      have HM := Lib.hid hm; clear hm
      have HM2 := Lib.hid hm2; clear hm2
      have HSN := Lib.hid hsn; clear hsn
      have HX := Lib.hid hx; clear hx
      have HXL := Lib.hid hxl; clear hxl
      have HSX := Lib.hid hsx; clear hsx
      have HLX := Lib.hid hlx; clear hlx
      have HIX := Lib.hid hix; clear hix
      clear hcx0
      go_wp2_with (first
        | ((with_reducible refine at_slot 14 rfl ?_); refine wpList_load_mid rfl 57 (.tmp 13) rfl b (o + i * 16) rfl (x.map bv) _ hrng Try.underlying57 rfl HIX.out ?_)
        | ((with_reducible refine at_store 57 (.tmp 5) (.tmp 14) rfl ?_); refine wpList_store_new rfl 57 (.tmp 5) (.tmp 14) rfl _ _ (x.map bv).toArray rfl rfl (dig_size_of HSX.out) (by rw [HSX.out]; rfl) (all_bytes _) ?_)
        | (at_builtin; refine wpList_append_own _ rfl (.tmp 15) (.tmp 16) _ rfl w.heap.size 5 i0 (.int .u8 0) 1 1 Try.underlying28 hi hz0 hz1 hz2 rfl (by decide) _ m _ rfl (hown2.alloc _) ⟨wr.heap.size, 0, none⟩ 16 16 _ rfl HLX.out (fresh_many _ _ _) (bytes_one _) (by unfold maxLen; omega) (by omega) (by have := hb2.size; simp; omega) ?_; intro v' w4 hown4 hgrow4 _))
      go_roundw
      case rel => exact FIN.out _ _ hown4 hgrow4
      case measure => simp [intOf]; omega
    · obtain rfl : i = n := by omega
      have hend : encList (fun d => d) l = enc (i : Int) ++ (l.take i).flatMap (fun d => d) := by rw [encList, HNL.out, List.take_of_length_le (by rw [HNL.out]; omega)]
      have HE := Lib.hid hend; clear hend
      have HM := Lib.hid hm; clear hm
      go_wp2
      go_ret
      exact ⟨g2, cap2, by rw [HE.out, ← HM.out]; rfl, by rw [HE.out, ← HM.out]; exact hown2, hb2⟩

set_option maxHeartbeats 400000 in
theorem getInts_any (bs : List UInt8) (n c : Nat) (A : Option Addr) (w : World) (hl : Lies w w.heap.size 1 A n c (bs.map bv)) (hbs : n ≤ 1099511627776) :
    Calls Try.prog 28 #[.slice A n c] w (GotL_int w (decList dec 1 bs)) := by
  have hc := list_int bs n c A w hl hbs
  cases hr : decList dec 1 bs with
  | error x =>
    rw [hr] at hc
    have HC := Lib.hid hc; clear hc hr
    go_enter Try.func28, Try.ntmps28
    go_wp2_with (go_at_call 40; refine HC.out.mono ?_; rintro e w' ⟨rfl, hb⟩)
    go_ret3
    exact ⟨rfl, hb⟩
  | ok p =>
    obtain ⟨xs, to⟩ := p
    rw [hr] at hc
    have HC := Lib.hid hc; clear hc hr
    go_enter Try.func28, Try.ntmps28
    go_wp2_with (go_at_call 40; refine HC.out.mono ?_; rintro e w' ⟨g, rfl, hown, hb⟩)
    go_ret3
    exact ⟨g, rfl, hown, hb⟩

set_option maxHeartbeats 400000 in
theorem getStrings_any (bs : List UInt8) (n c : Nat) (A : Option Addr) (w : World) (hl : Lies w w.heap.size 1 A n c (bs.map bv)) (hbs : n ≤ 1099511627776) :
    Calls Try.prog 31 #[.slice A n c] w (GotL_str w (decList decStr 1 bs)) := by
  have hc := list_str bs n c A w hl hbs
  cases hr : decList decStr 1 bs with
  | error x =>
    rw [hr] at hc
    have HC := Lib.hid hc; clear hc hr
    go_enter Try.func31, Try.ntmps31
    go_wp2_with (go_at_call 41; refine HC.out.mono ?_; rintro e w' ⟨rfl, hb⟩)
    go_ret3
    exact ⟨rfl, hb⟩
  | ok p =>
    obtain ⟨xs, to⟩ := p
    rw [hr] at hc
    have HC := Lib.hid hc; clear hc hr
    go_enter Try.func31, Try.ntmps31
    go_wp2_with (go_at_call 41; refine HC.out.mono ?_; rintro e w' ⟨g, rfl, hown, hb⟩)
    go_ret3
    exact ⟨g, rfl, hown, hb⟩

set_option maxHeartbeats 400000 in
theorem getDigests_any (bs : List UInt8) (n c : Nat) (A : Option Addr) (w : World) (hl : Lies w w.heap.size 1 A n c (bs.map bv)) (hbs : n ≤ 1099511627776) :
    Calls Try.prog 34 #[.slice A n c] w (GotL_dig w (decList decDig 16 bs)) := by
  have hc := list_dig bs n c A w hl hbs
  cases hr : decList decDig 16 bs with
  | error x =>
    rw [hr] at hc
    have HC := Lib.hid hc; clear hc hr
    go_enter Try.func34, Try.ntmps34
    go_wp2_with (go_at_call 42; refine HC.out.mono ?_; rintro e w' ⟨rfl, hb⟩)
    go_ret3
    exact ⟨rfl, hb⟩
  | ok p =>
    obtain ⟨xs, to⟩ := p
    rw [hr] at hc
    have HC := Lib.hid hc; clear hc hr
    go_enter Try.func34, Try.ntmps34
    go_wp2_with (go_at_call 42; refine HC.out.mono ?_; rintro e w' ⟨g, rfl, hown, hb⟩)
    go_ret3
    exact ⟨g, rfl, hown, hb⟩

end Wire
end Go.Proofs.Ytlpkiaeimcoplaa
