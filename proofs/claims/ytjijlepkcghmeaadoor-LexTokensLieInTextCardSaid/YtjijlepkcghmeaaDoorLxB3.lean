/- Package lex: Join. Condition: the slice reads as a list of tokens, their texts are not long. -/
import Derived.Test.YtjijlepkcghmeaaDoorLxB2
import Derived.OwnWalk
namespace Go.Proofs.YtjijlepkcghmeaaDoor
open Go.RowKit
namespace Lx
open Wire (bv sv Lies own_below)

/-- A new slice of n texts in block g, from base on. -/
structure RowS (w : World) (base g n : Nat) (l : List (List UInt8)) : Prop where
  own : w.ownsRow base 9 1 (.slice (some ⟨g, 0, none⟩) n n) n (l.map sv)
section
variable {w w' : World} {base g n : Nat} {l : List (List UInt8)}
theorem RowS.len (h : RowS w base g n l) : l.length = n := by have := h.own.1; simpa using this
theorem RowS.at_ (h : RowS w base g n l) {j : Nat} {x : List UInt8} (hx : l[j]? = some x) : w.cell? ⟨g, j, none⟩ = some (.string ⟨x.toArray⟩) ∧ w.frozen? ⟨g, j, none⟩ = false := by
  have hj : j < n * 1 := by have := h.len; have := (List.getElem?_eq_some_iff.1 hx).1; omega
  refine ⟨?_, h.own.frozenAt j⟩
  rw [h.own.cellAt j hj, List.getElem?_map, hx]; rfl
theorem RowS.on (h : RowS w base g n l) (hb : Below w.heap.size w w') : RowS w' base g n l := ⟨own_below h.own hb⟩
theorem RowS.set (h : RowS w base g n l) (j : Nat) (x : List UInt8) : RowS (w.setCell ⟨g, j, none⟩ (.string ⟨x.toArray⟩)) base g n (l.set j x) := by
  refine ⟨?_⟩
  rw [List.map_set]
  exact (h.own.stored j (sv x)).1
theorem RowS.size (h : RowS w base g n l) : g < w.heap.size := by
  rcases h.own.2 with ⟨h0, _⟩ | ⟨g', cap, cur, he, hb, hg, _⟩
  · cases h0
  · simp only [Value.slice.injEq, Option.some.injEq, Addr.mk.injEq, and_true, true_and] at he
    have := (Array.getElem?_eq_some_iff.1 hg).1
    omega
theorem rowS_made (h : w'.ownsRow base 9 1 (.slice (some ⟨g, 0, none⟩) n n) n (madeCells (Value.string ⟨#[]⟩).cells (n * 1)).toList) : RowS w' base g n (List.replicate n []) := by
  rw [show (Value.string ⟨#[]⟩).cells = #[.string ⟨#[]⟩] from rfl, Nat.mul_one, toList_madeCells_one] at h
  exact ⟨by rw [List.map_replicate]; exact h⟩
end
/-- The texts, of which the first k are there. -/
def texts (l : List (List UInt8)) (k : Nat) : List (List UInt8) := l.take k ++ List.replicate (l.length - k) []
theorem texts_zero (l : List (List UInt8)) : texts l 0 = List.replicate l.length [] := by simp [texts]
theorem texts_all (l : List (List UInt8)) : texts l l.length = l := by simp [texts]
theorem texts_next {l : List (List UInt8)} {k : Nat} {x : List UInt8} (h : l[k]? = some x) : (texts l k)[k]? = some [] ∧ texts l (k + 1) = (texts l k).set k x := by
  have hk : k < l.length := (List.getElem?_eq_some_iff.1 h).1
  obtain ⟨d, hd⟩ : ∃ d, l.length - k = d + 1 := ⟨l.length - k - 1, by omega⟩
  have hl : (l.take k).length = k := by rw [List.length_take]; omega
  unfold texts
  refine ⟨?_, ?_⟩
  · rw [List.getElem?_append_right (by omega), hl, hd]; simp
  · rw [List.take_add_one, h, hd, List.replicate_succ, List.set_append_right _ _ (by omega), hl, Nat.sub_self, show l.length - (k + 1) = d by omega]
    simp
theorem join_lib : ∀ l : List (List UInt8), Lib.join l [32] = join l
  | [] => rfl
  | [x] => by simp [Lib.join, List.intercalate, join]
  | x :: y :: r => by
    have ih := join_lib (y :: r)
    unfold Lib.join List.intercalate at ih ⊢
    rw [List.intersperse_cons_cons, join]
    simp only [List.flatten_cons]
    rw [ih]
    simp
theorem join_any (l : List (List UInt8)) (W : World) (bk n : Nat) (hn : n = l.length) (hl : n ≤ 4200) (hx : ∀ x ∈ l, x.length ≤ 4200)
    (hc : ∀ (j : Nat) (x : List UInt8), l[j]? = some x → W.cell? ⟨bk, j, none⟩ = some (.string ⟨x.toArray⟩)) (hb : bk < W.heap.size) :
    Calls Tryd.prog 23 #[.slice (some ⟨bk, 0, none⟩) n n, .string ⟨#[32]⟩] W (GivesS (join l) W) := by
  subst hn
  have e1 : (l.map fun x => (⟨x.toArray⟩ : ByteArray)).map (·.data.toList) = l := by
    rw [List.map_map]
    exact List.map_id'' (fun _ => rfl) l
  have e3 : (join l).length ≤ 4200 * 4201 := Nat.le_trans (join_len l 4200 hx) (Nat.mul_le_mul_right _ hl)
  have e2 : Lib.join l (⟨#[32]⟩ : ByteArray).data.toList = join l := join_lib l
  have h := Tryd.strings_Join bk 0 l.length (l.map fun x => ⟨x.toArray⟩) ⟨#[32]⟩ W (fun j x hx => by
    rw [List.getElem?_map] at hx
    rw [Nat.zero_add]
    cases hy : l[j]? with
    | none => rw [hy] at hx; cases hx
    | some y => rw [hy] at hx; cases hx; exact hc j y hy) hb (by rw [List.length_map]; omega) (by rw [List.length_map]; omega) (by
      rw [e1, e2]
      omega)
  rw [e1, e2, List.length_map] at h
  exact h
theorem info_s {P : Program} {t : TypeId} {z : Value} {s b : Nat} (h : (P.info? t).map (fun i => (i.zero, i.size, i.bytes)) = some (some z, s, b)) : ∃ i, P.info? t = some i ∧ i.zero = some z ∧ i.size = s ∧ i.bytes = b := info_parts h
theorem str_info : (Tryd.prog.info? 9).map (fun i => (i.zero, i.size, i.bytes)) = some (some (.string ⟨#[]⟩), 1, 16) := by kernel_rfl

set_option maxRecDepth 100000 in
set_option maxHeartbeats 2000000 in
theorem joinP_any (l : List TI) (n c : Nat) (A : Option Addr) (w : World) (hl : Lies w w.heap.size 4 A n c (cellsK l)) (hn : n ≤ 4200) (hx : ∀ t ∈ l, t.text.length ≤ 4200) :
    Calls Tryd.prog 15 #[.slice A n c] w (GivesS (join (l.map (·.text))) w) := by
  obtain ⟨i0, hi, hz0, hz1, hz2⟩ := info_s str_info
  have hln := lies_len hl
  have hmost : c ≤ 9223372036854775807 := by have := hl.most; unfold maxLen at this; omega
  have hle := hl.le
  have HLN := Lib.hid hln
  have HL := Lib.hid (fun (j : Nat) (t : TI) (h : l[j]? = some t) => lies_tok hl h)
  have HJ : Hid (∀ W, RowS W w.heap.size w.heap.size n (l.map (·.text)) → Calls Tryd.prog 23 #[.slice (some ⟨w.heap.size, 0, none⟩) n n, .string ⟨#[32]⟩] W (GivesS (join (l.map (·.text))) W)) := Lib.hid (fun W h => by
    refine join_any (l.map (·.text)) W w.heap.size n (by rw [List.length_map, hln]) hn (fun x hx2 => ?_) (fun j x h2 => (h.at_ h2).1) h.size
    obtain ⟨t, ht, rfl⟩ := List.mem_map.1 hx2
    exact hx t ht)
  have HT0 : Hid (texts (l.map (·.text)) 0 = List.replicate n []) := Lib.hid (by rw [texts_zero, List.length_map, hln])
  have HTN : Hid (texts (l.map (·.text)) n = l.map (·.text)) := Lib.hid (by
    have := texts_all (l.map (·.text))
    rw [List.length_map, hln] at this
    exact this)
  clear hl hln hx
  go_enter Tryd.func15, Tryd.ntmps15
  go_wp2_with (first
    | (at_make; refine wpList_make_full _ rfl _ _ 46 rfl w.heap.size 9 i0 (.string ⟨#[]⟩) 1 Tryd.underlying46 hi hz0 hz1 .i64 .i64 _ _ n rfl rfl rfl rfl (by rw [hz2]; omega) (by unfold maxLen; omega) (Nat.le_refl _) ?_; intro w4 hown4 hg4))
  have Y0 : RowS w4 w.heap.size w.heap.size n (texts (l.map (·.text)) 0) ∧ Below w.heap.size w w4 := ⟨by rw [HT0.out]; exact rowS_made hown4, (Below.refl _ _).grown hg4 (Nat.le_refl _) (by simp)⟩
  clear hown4 hg4 HT0
  go_loopw [11] (fun iv wr => ∃ (k : Nat), Hid (k ≤ n) ∧ iv = .int .i64 (k : Int) ∧ RowS wr w.heap.size w.heap.size n (texts (l.map (·.text)) k) ∧ Below w.heap.size w wr) (fun iv _ => ((n : Int) - intOf iv).toNat)
  case atStart => exact ⟨0, Lib.hid (Nat.zero_le _), rfl, Y0⟩
  case round =>
    clear Y0
    obtain ⟨k, HK, rfl, Y, hb⟩ := hrel
    by_cases hk : k < n
    · have z1 : (k : Int) < (n : Int) := by omega
      have z0 : (0 : Int) ≤ (k : Int) := by omega
      obtain ⟨t, ht⟩ : ∃ t, l[k]? = some t := ⟨_, List.getElem?_eq_getElem (by rw [HLN.out]; exact hk)⟩
      have ht2 : (l.map (·.text))[k]? = some t.text := by rw [List.getElem?_map, ht]; rfl
      obtain ⟨hq, hnext⟩ := texts_next ht2
      have HNX := Lib.hid hnext
      obtain ⟨b, o, rfl, hbb, hcl⟩ := HL.out k t ht
      have HRG : Hid (wr.rangeAt b (o + k * 4) t.cells) := Lib.hid (fun j u hu => by
        rw [Nat.add_assoc]
        exact (hb.cell (p := ⟨b, o + (k * 4 + j), none⟩) hbb).trans (hcl j u hu))
      have HKL := Lib.hid hk
      have HTC : t.cells = [.int .i64 t.kind, .string ⟨t.text.toArray⟩, .int .i64 t.n, .int .i64 t.pos] := rfl
      rw [HTC] at HRG
      obtain ⟨kd, tx, nn, ps⟩ := t
      have HG : Hid ((fun W => RowS W w.heap.size w.heap.size n (texts (l.map (·.text)) k) ∧ Below w.heap.size w W ∧ W.cell? ⟨wr.heap.size, 1, none⟩ = some (.string ⟨tx.toArray⟩)) (wr.alloc (.cells #[.int .i64 kd, .string ⟨tx.toArray⟩, .int .i64 nn, .int .i64 ps] 36))) := Lib.hid
        ⟨Y.on (Wire.b1 _ _), Wire.bc hb (Wire.b1 _ _), ((Hash.arr_new wr #[.int .i64 kd, .string ⟨tx.toArray⟩, .int .i64 nn, .int .i64 ps] 36).at_ (i := 1) rfl).1⟩
      have HQ := Lib.hid hq
      clear hq hnext ht ht2 hcl HTC hk
      go_wp2_with (first
        | ((with_reducible refine Hash.at_slot 15 rfl ?_); refine wpList_load_mid rfl 36 (.tmp 14) rfl b (o + k * 4) rfl [.int .i64 kd, .string ⟨tx.toArray⟩, .int .i64 nn, .int .i64 ps] _ HRG.out Tryd.underlying36 rfl (by kernel_rfl) ?_)
        | ((with_reducible refine Hash.at_slot 19 rfl ?_); refine genW (Pq := fun W => RowS W w.heap.size w.heap.size n (texts (l.map (·.text)) k) ∧ Below w.heap.size w W ∧ W.cell? ⟨wr.heap.size, 1, none⟩ = some (.string ⟨tx.toArray⟩)) (G := fun W => wpList _ _ _ _ _ W) HG.out ?_; clear HG; intro W2 YY; obtain ⟨Y2, hb2, hcell⟩ := YY; obtain ⟨q1, q2⟩ := Y2.at_ HQ.out))
      go_roundw
      case rel => exact ⟨k + 1, Lib.hid HKL.out, by go_num, by rw [HNX.out]; exact Y2.set _ _, hb2.setCell (Nat.le_refl _) _⟩
      case measure => have := HKL.out; simp [intOf]; omega
    · obtain rfl : k = n := by have := HK.out; omega
      have z1 : ¬ (k : Int) < (k : Int) := by omega
      rw [HTN.out] at Y
      go_wp2_with (go_at_call 23; (with_reducible refine (HJ.out _ Y).mono ?_); rintro e w5 ⟨rfl, hb5⟩)
      go_ret
      exact ⟨rfl, Wire.bc hb hb5⟩
end Lx
end Go.Proofs.YtjijlepkcghmeaaDoor
