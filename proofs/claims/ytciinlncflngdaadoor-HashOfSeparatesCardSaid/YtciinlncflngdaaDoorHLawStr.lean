/- The reference's Joined, and the walk of the statement HashStreamsAgree. Condition: the tables of round constants read as the program lays them. -/
import Derived.Test.YtciinlncflngdaaDoorHLawOf
namespace Go.Proofs.YtciinlncflngdaaDoor
open Go.RowKit
namespace Hash
open Wire (bv sv Made Lies encStr)

theorem strSz (w : World) : (sizeOf (Tryd.prog.elem 27)).run Tryd.prog w = .ok 1 w := by kernel_rfl
theorem slice_to {w : World} {B : Nat} {A : Option Addr} {n c k : Nat} {xs : List Value} (h : Lies w B 1 A n c xs) (hk : k ≤ n) (W : World) :
    (Instr.slice 27 (.slice A n c) none (some (.int .i64 (k : Int))) none).run Tryd.prog W = .ok (.slice A k c) W := by
  have hle := h.le
  rw [run_slice_h (P := Tryd.prog) (w := W) 27 A n c (by kernel_rfl) .i64 (k : Int) (by omega) (by omega), strSz]
  by_cases h0 : c = 0
  · simp [Result.andThen, sliced, h0]
  · obtain ⟨b, o, rfl⟩ := h.some_ (by omega)
    simp [Result.andThen, sliced, h0, Addr.add]
theorem lies_take {w : World} {B : Nat} {A : Option Addr} {n c k : Nat} {xs : List Value} (h : Lies w B 1 A n c xs) (hk : k ≤ n) : Lies w B 1 A k c (xs.take k) := by
  have hl := h.len
  refine ⟨by rw [List.length_take]; omega, by have := h.le; omega, h.most, h.some_, fun hp => ?_⟩
  obtain ⟨b, o, e, hb, hc⟩ := h.cells (by omega)
  refine ⟨b, o, e, hb, fun j u hu => hc j u ?_⟩
  rw [List.getElem?_take] at hu
  split at hu
  · exact hu
  · cases hu
theorem appS (a b : List UInt8) : (⟨a.toArray⟩ : ByteArray) ++ (⟨b.toArray⟩ : ByteArray) = ⟨(a ++ b).toArray⟩ := by
  apply ByteArray.ext
  simp
theorem flat_step {l : List (List UInt8)} {k : Nat} {x : List UInt8} (h : l[k]? = some x) : (l.take (k + 1)).flatten = (l.take k).flatten ++ x := by
  rw [List.take_add_one, h]; simp
theorem flat_max {l : List (List UInt8)} (h1 : l.length ≤ 12) (h2 : ∀ s ∈ l, s.length ≤ 400) : ∀ k, (l.take k).flatten.length ≤ 4800 := by
  have hl : ∀ l : List (List UInt8), (∀ s ∈ l, s.length ≤ 400) → l.flatten.length ≤ 400 * l.length := by
    intro l
    induction l with
    | nil => intro _; simp
    | cons s l ih =>
      intro h
      have h1 := h s (List.mem_cons_self ..)
      have h2 := ih (fun t ht => h t (List.mem_cons_of_mem _ ht))
      rw [List.flatten_cons, List.length_append, List.length_cons]
      omega
  intro k
  have := hl (l.take k) (fun s hs => h2 s (List.mem_of_mem_take hs))
  have h3 : (l.take k).length ≤ 12 := by rw [List.length_take]; omega
  omega

set_option maxRecDepth 100000 in
set_option maxHeartbeats 1000000 in
theorem joined_any (l : List (List UInt8)) (n c : Nat) (A : Option Addr) (w : World) (hl : Lies w w.heap.size 1 A n c (l.map sv)) (hmx : ∀ k, (l.take k).flatten.length ≤ 1000000) :
    Calls Tryd.prog 16 #[.slice A n c] w fun e w' => e = .returned (.string ⟨l.flatten.toArray⟩) ∧ w = w' := by
  have hn : l.length = n := by have := hl.len; simpa using this
  have hmost : c ≤ 9223372036854775807 := by have := hl.most; unfold maxLen at this; omega
  have hle := hl.le
  have HN := Lib.hid hn
  have HL := Lib.hid hl
  have HM := Lib.hid hmx
  clear hn hl hmx
  go_enter Tryd.func16, Tryd.ntmps16
  go_wp2
  go_loop [3, 4] (fun sv iv => ∃ (k : Nat), k ≤ n ∧ iv = .int .i64 (k : Int) ∧ sv = .string ⟨(l.take k).flatten.toArray⟩) (fun _ iv => n - (intOf iv).toNat)
  case atStart => exact ⟨0, by omega, rfl, rfl⟩
  case round =>
    obtain ⟨k, hk, rfl, rfl⟩ := hrel
    by_cases hkn : k < n
    · obtain ⟨b, o, u, rfl, hbw, hu, hcx⟩ := HL.out.at_ hkn
      obtain ⟨x, hx⟩ : ∃ x, l[k]? = some x := ⟨_, List.getElem?_eq_getElem (by rw [HN.out]; exact hkn)⟩
      rw [List.getElem?_map, hx] at hu
      cases hu
      have hst := flat_step hx
      have hbd := HM.out (k + 1)
      rw [hst, List.length_append] at hbd
      generalize (l.take k).flatten = m at hst hbd ⊢
      have hsm := sizeS m
      have hsx := sizeS x
      have happ := appS m x
      have HST := Lib.hid hst
      have y0 : (0 : Int) ≤ (k : Int) := by omega
      have y1 : (k : Int) < (n : Int) := by omega
      unfold sv at hcx
      clear hx hst
      go_wp2
      go_round
      case rel => exact ⟨k + 1, by omega, by go_num, by rw [HST.out]⟩
      case measure => simp [intOf]; omega
    · have hk2 : k = n := by omega
      have y1 : ¬ (k : Int) < (n : Int) := by omega
      have HE : Hid ((l.take k).flatten = l.flatten) := Lib.hid (by rw [List.take_of_length_le (by rw [HN.out]; omega)])
      clear hk2 hkn
      go_wp2
      go_ret
      exact ⟨by rw [HE.out]; rfl, rfl⟩

/-- A stream lies in block g. -/
structure StrT (w W : World) (A : Option Addr) (n c : Nat) (l : List (List UInt8)) (g : Nat) (m : List UInt8) : Prop where
  t : OfT w W A n c l
  far : w.heap.size ≤ g
  a : Arr W g 73 (strm m)
theorem OfT.drewN {w W : World} {A : Option Addr} {n c : Nat} {l : List (List UInt8)} (h : OfT w W A n c l) (k : Nat) : OfT w (W.drewN k) A n c l :=
  ⟨h.t1, h.t2, h.arg.keep fun _ _ => rfl, ⟨h.below.os, h.below.tape, h.below.output, h.below.size, h.below.block⟩⟩
theorem StrT.drewN {w W : World} {A : Option Addr} {n c g : Nat} {l : List (List UInt8)} {m : List UInt8} (h : StrT w W A n c l g m) (k : Nat) : StrT w (W.drewN k) A n c l g m := ⟨h.t.drewN k, h.far, h.a.drew k⟩
theorem StrT.on {w W W2 : World} {A : Option Addr} {n c g : Nat} {l : List (List UInt8)} {m : List UInt8} (h : StrT w W A n c l g m) (hb : Below W.heap.size W W2) : StrT w W2 A n c l g m :=
  ⟨h.t.on hb, h.far, h.a.below hb (h.a.size (by omega))⟩
/-- What was there before the walk stays, whatever is stored into new blocks. -/
theorem OfT.keep {w W2 : World} {A : Option Addr} {n c : Nat} {l : List (List UInt8)} (h0 : OfT w w A n c l) (hb : Below w.heap.size w W2) : OfT w W2 A n c l :=
  ⟨tabj h0.t1 hb, tabj h0.t2 hb, (h0.arg.below hb).more hb.size, hb⟩
theorem StrT.put {w W : World} {A : Option Addr} {n c g : Nat} {l : List (List UInt8)} {m m2 : List UInt8} (h0 : OfT w w A n c l) (h : StrT w W A n c l g m) : StrT w (W.setCells g 0 (strm m2).toArray.toList) A n c l g m2 :=
  ⟨h0.keep (h.t.below.trans (below_cells h.far _ _ _)), h.far, h.a.over (strm_length m2)⟩
theorem strT_new {w W : World} {A : Option Addr} {n c : Nat} {l : List (List UInt8)} (h : OfT w W A n c l) (m : List UInt8) (t : TypeId) : StrT w ((W.alloc (.cells zS t)).setCells W.heap.size 0 (strm m).toArray.toList) A n c l W.heap.size m ∧
    Below W.heap.size W ((W.alloc (.cells zS t)).setCells W.heap.size 0 (strm m).toArray.toList) := by
  have hn := arr_new W zS t
  rw [zS_size] at hn
  have hb : Below W.heap.size W ((W.alloc (.cells zS t)).setCells W.heap.size 0 (strm m).toArray.toList) := ((Below.refl _ _).alloc (Nat.le_refl _) _).trans (below_cells (Nat.le_refl _) _ _ _)
  exact ⟨⟨h.on hb, h.below.size, hn.over (strm_length m)⟩, hb⟩
/-- Two streams. -/
structure StrU (w W : World) (A : Option Addr) (n c : Nat) (l : List (List UInt8)) (g : Nat) (m : List UInt8) (g2 : Nat) (m2 : List UInt8) : Prop where
  s : StrT w W A n c l g m
  a : Arr W g2 73 (strm m2)
  ne : g2 ≠ g
theorem StrU.drewN {w W : World} {A : Option Addr} {n c g g2 : Nat} {l : List (List UInt8)} {m m2 : List UInt8} (h : StrU w W A n c l g m g2 m2) (k : Nat) : StrU w (W.drewN k) A n c l g m g2 m2 := ⟨h.s.drewN k, h.a.drew k, h.ne⟩
theorem StrU.on {w W W2 : World} {A : Option Addr} {n c g g2 : Nat} {l : List (List UInt8)} {m m2 : List UInt8} (h : StrU w W A n c l g m g2 m2) (hb : Below W.heap.size W W2) : StrU w W2 A n c l g m g2 m2 :=
  ⟨h.s.on hb, h.a.below hb (h.a.size (by omega)), h.ne⟩
theorem StrU.put {w W : World} {A : Option Addr} {n c g g2 : Nat} {l : List (List UInt8)} {m m2 m3 : List UInt8} (h0 : OfT w w A n c l) (h : StrU w W A n c l g m g2 m2) : StrU w (W.setCells g 0 (strm m3).toArray.toList) A n c l g m3 g2 m2 :=
  ⟨h.s.put h0, h.a.aside h.ne 0, h.ne⟩
structure StrV (w W : World) (A : Option Addr) (n c : Nat) (l : List (List UInt8)) (g : Nat) (m : List UInt8) (g2 : Nat) (m2 : List UInt8) (g3 : Nat) (m3 : List UInt8) : Prop where
  u : StrU w W A n c l g m g2 m2
  a : Arr W g3 73 (strm m3)
theorem StrV.on {w W W2 : World} {A : Option Addr} {n c g g2 g3 : Nat} {l : List (List UInt8)} {m m2 m3 : List UInt8} (h : StrV w W A n c l g m g2 m2 g3 m3) (hb : Below W.heap.size W W2) : StrV w W2 A n c l g m g2 m2 g3 m3 :=
  ⟨h.u.on hb, h.a.below hb (h.a.size (by omega))⟩
theorem sumConv (x : List UInt8) (hx : x.length ≤ 1000000) (W : World) (ht : Table 1 W) :
    Calls Tryd.prog 11 #[.slice (some ⟨W.heap.size, 0, none⟩) x.length (grownCap W x.length 0 5)] (Lib.bytesWorld W 5 ⟨x.toArray⟩) fun e w' => e = .returned (.agg ((sha x).map bv).toArray) ∧ Below W.heap.size W w' := sumKey x (by omega) W ht

end Hash
end Go.Proofs.YtciinlncflngdaaDoor
