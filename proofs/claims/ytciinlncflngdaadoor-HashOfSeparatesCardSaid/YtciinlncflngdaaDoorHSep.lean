/- The inputs of Of are different for different tags and parts; what is kept of arrays in memory. No condition but lengths. -/
import Derived.Test.YtciinlncflngdaaDoorHLawStr
namespace Go.Proofs.YtciinlncflngdaaDoor
open Go.RowKit
namespace Hash
open Wire (bv sv Made Lies encStr enc dec)

theorem enc_inj {n m : Int} {t r : List UInt8} (hn : -9223372036854775808 ≤ n ∧ n ≤ 9223372036854775807) (hm : -9223372036854775808 ≤ m ∧ m ≤ 9223372036854775807) (h : enc n ++ t = enc m ++ r) : n = m ∧ t = r := by
  have h1 := Wire.dec_enc hn t
  have h2 := Wire.dec_enc hm r
  rw [h] at h1
  have e := h1.symm.trans h2
  simp only [Except.ok.injEq, Prod.mk.injEq] at e
  obtain ⟨rfl, _⟩ := e
  exact ⟨rfl, List.append_cancel_left h⟩
theorem encStr_inj {s s' r r' : List UInt8} (hs : s.length ≤ 400) (hs' : s'.length ≤ 400) (h : encStr s ++ r = encStr s' ++ r') : s = s' ∧ r = r' := by
  have h2 : enc (s.length : Int) ++ (s ++ r) = enc (s'.length : Int) ++ (s' ++ r') := by simpa [encStr] using h
  obtain ⟨h3, h4⟩ := enc_inj (by omega) (by omega) h2
  exact List.append_inj h4 (by omega)
theorem flat_inj : ∀ (l l' : List (List UInt8)), (∀ s ∈ l, s.length ≤ 400) → (∀ s ∈ l', s.length ≤ 400) → l.flatMap encStr = l'.flatMap encStr → l = l'
  | [], [], _, _, _ => rfl
  | [], s :: l', _, _, h => by
    have := congrArg List.length h
    have h2 := Wire.enc_length (s.length : Int)
    rw [List.flatMap_cons, List.length_append] at this
    simp only [encStr, List.length_append, List.flatMap_nil, List.length_nil] at this
    omega
  | s :: l, [], _, _, h => by
    have := congrArg List.length h
    have h2 := Wire.enc_length (s.length : Int)
    rw [List.flatMap_cons, List.length_append] at this
    simp only [encStr, List.length_append, List.flatMap_nil, List.length_nil] at this
    omega
  | s :: l, s' :: l', h1, h2, h => by
    rw [List.flatMap_cons, List.flatMap_cons] at h
    obtain ⟨rfl, h3⟩ := encStr_inj (h1 s (List.mem_cons_self ..)) (h2 s' (List.mem_cons_self ..)) h
    rw [flat_inj l l' (fun t ht => h1 t (List.mem_cons_of_mem _ ht)) (fun t ht => h2 t (List.mem_cons_of_mem _ ht)) h3]
theorem ofIn_inj {t0 t1 : Nat} {a b : List (List UInt8)} (h0 : t0 < 256) (h1 : t1 < 256) (ha : ∀ s ∈ a, s.length ≤ 400) (hb : ∀ s ∈ b, s.length ≤ 400) (h : ofIn (t0 : Int) a = ofIn (t1 : Int) b) : t0 = t1 ∧ a = b := by
  simp only [ofIn, List.cons.injEq] at h
  refine ⟨?_, flat_inj a b ha hb h.2⟩
  have e0 := tagByte_eq (t0 : Int)
  have e1 := tagByte_eq (t1 : Int)
  rw [h.1] at e0
  omega

/-- Arrays that are there, and stay. -/
def Keep (W : World) (ps : List (Nat × Nat × List Value)) : Prop := ∀ p ∈ ps, 0 < p.2.1 ∧ Arr W p.1 p.2.1 p.2.2
theorem Keep.on {W W2 : World} {ps : List (Nat × Nat × List Value)} (h : Keep W ps) (hb : Below W.heap.size W W2) : Keep W2 ps := fun p hp => ⟨(h p hp).1, (h p hp).2.below hb ((h p hp).2.size (h p hp).1)⟩
theorem Keep.drew {W : World} {ps : List (Nat × Nat × List Value)} (h : Keep W ps) (k : Nat) : Keep (W.drewN k) ps := fun p hp => ⟨(h p hp).1, (h p hp).2.drew k⟩
theorem Keep.add {W : World} {ps : List (Nat × Nat × List Value)} (h : Keep W ps) {g n : Nat} {xs : List Value} (hn : 0 < n) (ha : Arr W g n xs) : Keep W ((g, n, xs) :: ps) := fun p hp => by
  rcases List.mem_cons.1 hp with rfl | hp
  · exact ⟨hn, ha⟩
  · exact h p hp
theorem Keep.nil (W : World) : Keep W [] := fun _ h => by cases h
theorem Keep.at0 {W : World} {ps : List (Nat × Nat × List Value)} {g n : Nat} {xs : List Value} (h : Keep W ((g, n, xs) :: ps)) : Arr W g n xs := (h _ (List.mem_cons_self ..)).2
theorem Keep.tl {W : World} {ps : List (Nat × Nat × List Value)} {p : Nat × Nat × List Value} (h : Keep W (p :: ps)) : Keep W ps := fun q hq => h q (List.mem_cons_of_mem _ hq)

/-- The table; the two slices; the array of tags in the first new block. -/
structure SepT (w W : World) (A : Option Addr) (n c : Nat) (a : List (List UInt8)) (B : Option Addr) (m d : Nat) (b : List (List UInt8)) (t0 t1 : Nat) : Prop where
  tab : Table 1 W
  ta : Lies W W.heap.size 1 A n c (a.map sv)
  tb : Lies W W.heap.size 1 B m d (b.map sv)
  box : Arr W w.heap.size 2 [.int .u8 (t0 : Int), .int .u8 (t1 : Int)]
  below : Below w.heap.size w W
theorem SepT.on {w W W2 : World} {A B : Option Addr} {n c m d t0 t1 : Nat} {a b : List (List UInt8)} (h : SepT w W A n c a B m d b t0 t1) (hb : Below W.heap.size W W2) : SepT w W2 A n c a B m d b t0 t1 :=
  ⟨tabj h.tab hb, lies_on h.ta hb, lies_on h.tb hb, h.box.below hb (h.box.size (by omega)), bcj h.below hb⟩
theorem SepT.drewN {w W : World} {A B : Option Addr} {n c m d t0 t1 : Nat} {a b : List (List UInt8)} (h : SepT w W A n c a B m d b t0 t1) (k : Nat) : SepT w (W.drewN k) A n c a B m d b t0 t1 :=
  ⟨h.tab, h.ta.keep fun _ _ => rfl, h.tb.keep fun _ _ => rfl, h.box.drew k, ⟨h.below.os, h.below.tape, h.below.output, h.below.size, h.below.block⟩⟩
theorem SepT.cells {w W : World} {A B : Option Addr} {n c m d t0 t1 : Nat} {a b : List (List UInt8)} (h : SepT w W A n c a B m d b t0 t1) :
    W.cell? ⟨w.heap.size, 0, none⟩ = some (.int .u8 (t0 : Int)) ∧ W.cell? ⟨w.heap.size, 1, none⟩ = some (.int .u8 (t1 : Int)) :=
  ⟨(h.box.at_ (i := 0) rfl).1, (h.box.at_ (i := 1) rfl).1⟩
theorem belowK (W : World) (k : Nat) : Below W.heap.size W (W.drewN k) := ⟨rfl, rfl, rfl, Nat.le_refl _, fun _ _ => rfl⟩
theorem eqS (a b : List UInt8) (W : World) : (Op.equalIn 10000 9 (.string ⟨a.toArray⟩) (.string ⟨b.toArray⟩)).run Tryd.prog W = .ok (decide (a = b)) W := by
  rw [run_equalIn_string W 9999 9 _ _ Tryd.underlying9]
  congr 1
  by_cases h : a = b
  · subst h; simp
  · rw [decide_eq_false h]
    rw [beq_eq_false_iff_ne]
    intro e
    exact h (by simpa using e)

end Hash
end Go.Proofs.YtciinlncflngdaaDoor
