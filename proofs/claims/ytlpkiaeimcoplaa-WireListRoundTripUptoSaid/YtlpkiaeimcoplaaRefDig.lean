/- What the reference's GetDigests returns. Condition: the slice's cells are bytes and lie where they are said to lie; there are at most 2^40. -/
import Derived.Test.YtlpkiaeimcoplaaRefCnt
namespace Go.Proofs.Ytlpkiaeimcoplaa
open Go.RowKit
namespace Wire

/-- A list of digests, and the place behind it; or the error's number. -/
def GotLB_dig (w : World) (r : Except Nat (List (List UInt8) × Nat)) (e : Ending) (w' : World) : Prop :=
  match r with
  | .ok (xs, to) => ∃ v, e = .returned (.tuple #[v, .int .i64 (to : Int), .int .i64 0]) ∧ w'.ownsRow w.heap.size 57 16 v xs.length (digCells xs) ∧ Below w.heap.size w w'
  | .error x => e = .returned (.tuple #[.slice none 0 0, .int .i64 0, .int .i64 (x : Int)]) ∧ Below w.heap.size w w'

theorem set_one (cs : List Value) (z : Value) {j : Nat} {u : Value} (hj : j < 16) (hu : cs[j]? = some u) : (cs.take j ++ List.replicate (16 - j) z).set j u = cs.take (j + 1) ++ List.replicate (16 - (j + 1)) z := by
  have hl : j < cs.length := (List.getElem?_eq_some_iff.1 hu).1
  obtain ⟨d, hd⟩ : ∃ d, 16 - j = d + 1 := ⟨15 - j, by omega⟩
  rw [hd, show 16 - (j + 1) = d by omega, List.set_append_right _ _ (by simp; omega), List.take_add_one, hu]
  have e : j - (cs.take j).length = 0 := by simp; omega
  rw [e]
  simp [List.replicate_succ]

theorem fold_cells_aux (cs : List Value) : ∀ (k : Nat) (z : Array Value), z.size = k + cs.length → List.foldl (fun c (x : Value × Nat) => c.setIfInBounds x.snd x.fst) z (cs.zipIdx k) = (z.toList.take k ++ cs).toArray := by
  induction cs with
  | nil =>
    intro k z hz
    have : z.toList.length ≤ k := by simp at hz ⊢; omega
    simp [List.take_of_length_le this]
  | cons x cs ih =>
    intro k z hz
    have hk : k < z.toList.length := by simp at hz ⊢; omega
    rw [List.zipIdx_cons, List.foldl_cons, ih (k + 1) _ (by simp at hz ⊢; omega)]
    congr 1
    have hk2 : k < (z.toList.set k x).length := by simpa using hk
    simp only [Array.toList_setIfInBounds]
    rw [List.take_add_one, List.take_set_of_le (Nat.le_refl _), List.getElem?_set_self hk]
    simp

theorem fold_cells {cs : List Value} {m : Nat} (hl : cs.length = m) (z : Array Value) (hz : z.size = m) : List.foldl (fun c (x : Value × Nat) => c.setIfInBounds x.snd x.fst) z cs.zipIdx = cs.toArray := by
  rw [fold_cells_aux cs 0 z (by omega)]; simp

set_option maxRecDepth 100000 in
set_option maxHeartbeats 1000000 in
theorem refList_dig (bs : List UInt8) (n c : Nat) (A : Option Addr) (w : World) (hl : Lies w w.heap.size 1 A n c (bs.map bv)) (hbs : n ≤ 1099511627776) :
    Calls Try.prog 35 #[.slice A n c] w (GotLB_dig w (decList decDig 16 bs)) := by
  have hmost : c ≤ 9223372036854775807 := by have := hl.most; unfold maxLen at this; omega
  have hle := hl.le
  have hbl : bs.length = n := by have := hl.len; simpa using this
  obtain ⟨i0, hi, hz0, hz1, hz2⟩ := info_parts dig_info
  cases hd : declen 16 bs with
  | error x =>
    have hx := declen_err hd
    have hx0 : ¬ (x : Int) = 0 := by omega
    have hr : decList decDig 16 bs = .error x := by unfold decList; rw [hd]
    have HC := Lib.hid (refCnt_err hl (size := 16) (by omega) hbs hd); clear hd
    have HR := Lib.hid hr; clear hr
    have HX := Lib.hid hx; clear hx
    have HB := Lib.hid hbl; clear hbl
    go_enter Try.func35, Try.ntmps35
    go_wp2_with (go_at_call 39; refine HC.out.mono ?_; rintro e w1 ⟨rfl, hb⟩)
    go_ret3
    rw [HR.out]
    exact ⟨rfl, hb⟩
  | ok p =>
    obtain ⟨v, u⟩ := p
    obtain ⟨hd1, hv0, hv1⟩ := declen_ok hd
    have hu := dec_used hd1
    obtain ⟨k, rfl⟩ : ∃ k : Nat, v = k := ⟨v.toNat, by omega⟩
    have hk : u + 16 * k ≤ n := by simp only [hbl] at hv1; omega
    have hr : decList decDig 16 bs = decMany decDig bs k u := by unfold decList; rw [hd]; simp
    have HC := Lib.hid (refCnt_ok hl (size := 16) (by omega) hbs hd); clear hd
    have HR := Lib.hid hr; clear hr
    obtain ⟨b, o, rfl, -, -⟩ := hl.cells (by omega)
    have HD := Lib.hid hd1; clear hd1 hv1 hv0
    have HU := Lib.hid hu; clear hu
    have HB := Lib.hid hbl; clear hbl
    go_enter Try.func35, Try.ntmps35
    go_wp2_with (go_at_call 39; refine HC.out.mono ?_; rintro e w1 ⟨rfl, hb1⟩)
    go_loopw [6, 8, 9] (fun av v jv wr => ∃ (i to : Nat) (xs : List (List UInt8)), i ≤ k ∧ jv = .int .i64 (i : Int) ∧ av = .int .i64 (to : Int) ∧ xs.length = i ∧ to = u + 16 * i ∧ decMany decDig bs k u = pre xs (decMany decDig bs (k - i) to) ∧
        wr.ownsRow w.heap.size 57 16 v i (digCells xs) ∧ Below w.heap.size w wr) (fun _ _ jv _ => (k - (intOf jv)).toNat)
    case atStart => exact ⟨0, u, [], by omega, rfl, rfl, rfl, by omega, by rw [pre_nil]; rfl, World.ownsRow_nil _ _ _ _, hb1⟩
    case round =>
      obtain ⟨i, to, xs, hik, rfl, rfl, hxs, hto, hdm, hown, hb⟩ := hrel
      clear hb1
      obtain ⟨wo, rfl⟩ : ∃ wo : World, wo = wr := ⟨_, rfl⟩
      by_cases hlt : i < k
      · have hton : to + 16 ≤ n := by omega
        obtain ⟨cs, hcsd⟩ : ∃ cs, cs = ((bs.drop to).take 16).map bv := ⟨_, rfl⟩
        have hcs : cs.length = 16 := by rw [hcsd]; have := HB.out; simp; omega
        have hcell : ∀ W : World, Below wo.heap.size wo W → ∀ j, j < 16 → ∃ x : UInt8, cs[j]? = some (.int .u8 (x.toNat : Int)) ∧ W.cell? ⟨b, o + (to + j), none⟩ = some (.int .u8 (x.toNat : Int)) := by
          intro W hW j hj
          have hx : bs[to + j]? = some (bs[to + j]'(by rw [HB.out]; omega)) := List.getElem?_eq_getElem _
          refine ⟨_, ?_, ((hl.on hb).on hW).cell rfl (to + j) _ hx⟩
          rw [hcsd, List.getElem?_map, List.getElem?_take_of_lt hj, List.getElem?_drop, hx]; rfl
        have hst : (wo.alloc (.cells zero16.toArray 57)).ownsRow wo.heap.size 57 1 (.slice (some ⟨wo.heap.size, 0, none⟩) 16 16) 16 zero16 := World.ownsRow_lit wo zero16.toArray 16 (Nat.le_refl _) (by unfold maxLen; omega) rfl
        have hone : ∀ v ∈ cs, v.oneCell' = true := by rw [hcsd]; exact bytes_one _
        have hszc : (Try.prog.info? 57).map (·.size) = some cs.length := by rw [hcs]; exact dig_size
        have HCELL := Lib.hid hcell; clear hcell
        have HST := Lib.hid hst; clear hst
        have HCS := Lib.hid hcs; clear hcs
        have HSZC := Lib.hid hszc; clear hszc
        have HTO := Lib.hid hto; clear hto
        have HM := Lib.hid hdm; clear hdm
        have HXS := Lib.hid hxs; clear hxs
        have HCSD := Lib.hid hcsd; clear hcsd
        go_wp2
        go_loopw [11] (fun jv wq => ∃ (j : Nat), j ≤ 16 ∧ jv = .int .i64 (j : Int) ∧ wq.ownsRow wo.heap.size 57 1 (.slice (some ⟨wo.heap.size, 0, none⟩) 16 16) 16 (cs.take j ++ List.replicate (16 - j) (.int .u8 0)) ∧ Below wo.heap.size wo wq) (fun jv _ => (16 - (intOf jv)).toNat)
        case atStart => exact ⟨0, by omega, rfl, HST.out, b1 _ _⟩
        case round =>
          obtain ⟨j, hj, rfl, hoq, hbq⟩ := hrel
          by_cases hj16 : j < 16
          · obtain ⟨x, hcx, hwx⟩ := HCELL.out wr hbq j hj16
            have hc0 : wr.cell? ⟨wo.heap.size, j, none⟩ = some (.int .u8 0) := by
              rw [hoq.cellAt j (by omega), List.getElem?_append_right (by simp; omega)]
              have e : j - (cs.take j).length = 0 := by simp; have := HCS.out; omega
              rw [e, List.getElem?_replicate, if_pos (by omega)]
            have hf0 := hoq.frozenAt j
            have hnx : ∃ (j_1 : Nat), j_1 ≤ 16 ∧ Value.int .i64 ((j : Int) + 1) = .int .i64 (j_1 : Int) ∧ (wr.setCell ⟨wo.heap.size, j, none⟩ (.int .u8 (x.toNat : Int))).ownsRow wo.heap.size 57 1 (.slice (some ⟨wo.heap.size, 0, none⟩) 16 16) 16 (cs.take j_1 ++ List.replicate (16 - j_1) (.int .u8 0)) ∧
                Below wo.heap.size wo (wr.setCell ⟨wo.heap.size, j, none⟩ (.int .u8 (x.toNat : Int))) := by
              refine ⟨j + 1, by omega, by go_num, ?_, hbq.setCell (p := ⟨wo.heap.size, j, none⟩) (Nat.le_refl _) _⟩
              rw [← set_one cs _ hj16 hcx]
              exact (hoq.stored j _).1
            have HNX := Lib.hid hnx; clear hnx
            have HCX := Lib.hid hcx; clear hcx
            have i1 : (0 : Int) ≤ (to : Int) + j := by omega
            have i2 : (to : Int) + (j : Int) < (n : Int) := by omega
            go_wp2
            go_roundw
            case rel => exact HNX.out
            case measure => simp [intOf]; omega
          · obtain rfl : j = 16 := by omega
            have hrg : wr.rangeAt wo.heap.size 0 cs := by
              intro j v hv
              have hjl : j < 16 := by have := (List.getElem?_eq_some_iff.1 hv).1; have := HCS.out; omega
              rw [Nat.zero_add, hoq.cellAt j (by omega), Nat.sub_self, List.replicate_zero, List.append_nil, List.take_of_length_le (by rw [HCS.out]; omega)]
              exact hv
            have fin : ∀ (w' : World) (v' : Value), w'.ownsRow w.heap.size 57 16 v' (i + 1) (digCells xs ++ cs) → (wr.alloc (.cells cs.toArray 57)).grownBy w' u8.ownBlock →
                ∃ (i_1 to_1 : Nat) (xs : List (List UInt8)), i_1 ≤ k ∧ Value.int .i64 ((i : Int) + 1) = .int .i64 (i_1 : Int) ∧ Value.int .i64 ((to : Int) + 16) = .int .i64 (to_1 : Int) ∧ xs.length = i_1 ∧ to_1 = u + 16 * i_1 ∧ decMany decDig bs k u = pre xs (decMany decDig bs (k - i_1) to_1) ∧
                  w'.ownsRow w.heap.size 57 16 v' i_1 (digCells xs) ∧ Below w.heap.size w w' := by
              intro w' v' k2 k3
              have hsz := hb.size
              have hsz2 := hbq.size
              refine ⟨i + 1, to + 16, xs ++ [(bs.drop to).take 16], by omega, by go_num, by go_num, by have := HXS.out; simp; omega, by have := HTO.out; omega, ?_, by rw [digCells_snoc, ← HCSD.out]; exact k2, ?_⟩
              · obtain ⟨d, hdd⟩ : ∃ d, k - i = d + 1 := ⟨k - i - 1, by omega⟩
                rw [HM.out, hdd, pre_ok (g := decDig) rfl, show k - (i + 1) = d by omega]
              · exact ((bc hb hbq).alloc (by omega) _).grown k3 (by simp; omega) (fun k hk => (hown.lt k hk).1)
            have FIN := Lib.hid fin; clear fin
            have hsz := hb.size
            have hsz2 := hbq.size
            go_wp2_with (first
              | ((with_reducible refine at_slot 39 rfl ?_); refine wpList_load_mid rfl 57 (.tmp 10) rfl wo.heap.size 0 rfl cs _ hrg Try.underlying57 rfl HSZC.out ?_)
              | (at_builtin; rw [fold_cells HCS.out]; rotate_left 1; exact rfl; refine wpList_append_own _ rfl (.tmp 38) (.tmp 40) _ rfl w.heap.size 57 i0 (.agg zero16.toArray) 16 16 Try.underlying24 hi hz0 hz1 hz2 rfl (by decide) _ i _ rfl ((own_below hown hbq).alloc _) ⟨wr.heap.size, 0, none⟩ 1 1 cs rfl HCS.out (fresh_many _ _ _) hone (by unfold maxLen; omega) (by omega) (by simp; omega) ?_; intro v' w3 ho3 hg3 _))
            case roundEnd => exact ⟨FIN.out _ _ ho3 hg3, by simp [intOf]; omega⟩
            case inl => have := HCS.out; omega
      · obtain rfl : i = k := by omega
        have hend : GotLB_dig w (decList decDig 16 bs) (.returned (.tuple #[u8, .int .i64 (to : Int), .int .i64 0])) wo := by
          rw [HR.out, hdm, Nat.sub_self, pre_zero]
          subst hxs
          exact ⟨_, rfl, hown, hb⟩
        have HEND := Lib.hid hend; clear hend
        have HM := Lib.hid hdm; clear hdm
        have HXS := Lib.hid hxs; clear hxs
        have HTO := Lib.hid hto; clear hto
        go_wp2
        go_ret3
        exact HEND.out

end Wire
end Go.Proofs.Ytlpkiaeimcoplaa
