/- MOwn; Fold; MProve; MSub: what each of these parts proves stands ahead of it. -/
import Derived.Test.YthpkeaafgabjiaaDoorM8
import Derived.Test.YthpkeaafgabjiaaDoorProg
import Derived.StillTail
/- Slices of digests of one's own, and one digest appended. No condition. -/
namespace Go.Proofs.YthpkeaafgabjiaaDoor
open Go.RowKit
namespace Mk
open Wire (bv sv Lies own_below own_more)
open Hash (GivesA bcj)

/-- A slice of digests, from base on, that nobody else has; nil let in. -/
structure OwnD (w : World) (base : Nat) (v : Value) (n : Nat) (l : List (List UInt8)) : Prop where
  own : w.ownsRow base 29 16 v n (cellsD l)
  ok : Ok l
section
variable {w w' : World} {base n : Nat} {v : Value} {l : List (List UInt8)}
theorem OwnD.len (h : OwnD w base v n l) : l.length = n := by
  have := h.own.1
  rw [cellsD_length h.ok] at this
  omega
theorem OwnD.on (h : OwnD w base v n l) (hb : Below w.heap.size w w') : OwnD w' base v n l := ⟨own_below h.own hb, h.ok⟩
theorem OwnD.more {base' : Nat} (h : OwnD w base v n l) (hb : base' ≤ base) : OwnD w base' v n l := ⟨own_more h.own hb, h.ok⟩
theorem ownD_nil (w : World) (base : Nat) : OwnD w base (.slice none 0 0) 0 [] := ⟨World.ownsRow_nil _ _ _ _, ok_nil⟩
theorem OwnD.form (h : OwnD w base v n l) : ∃ A c, v = .slice A n c ∧ LiesD w w.heap.size A n c l := by
  rcases h.own.2 with ⟨rfl, rfl⟩ | ⟨g, cap, cur, rfl, _⟩
  · obtain rfl := List.eq_nil_of_length_eq_zero h.len
    exact ⟨none, 0, rfl, liesD_nil _ _ _⟩
  · exact ⟨_, _, rfl, Wire.lies_own h.own, h.ok⟩
end
theorem dig_info : (Tryd.prog.info? 29).map (fun i => (i.zero, i.size, i.bytes)) = some (some (dv zero), 16, 16) := by kernel_rfl
theorem one_cells (d : List UInt8) : ∀ u ∈ d.map bv, u.oneCell' = true := Wire.bytes_one d
section
variable {ops : Array Oper} {rest : List Oper} {o : Oper} {a : Act} {w : World} {Q : Exit → Act → World → Prop}
/-- A digest is appended. -/
theorem append_d (hgd : o.guard = none) (s x : Operand) (ho : o.op = .call { callee := .builtin .append, args := #[s, x], argTypes := #[22, 22] })
    (base : Nat) (v : Value) (n : Nat) (l : List (List UInt8)) (hs : a.eval s = v) (hown : OwnD w base v n l) (g : Nat) (hx : a.eval x = .slice (some ⟨g, 0, none⟩) 1 1) (d : List UInt8) (hd : d.length = 16) (hr : w.rangeAt g 0 (d.map bv))
    (hn : n ≤ 1099511627776) (hbase : base ≤ w.heap.size)
    (h : ∀ v' w', OwnD w' base v' (n + 1) (l ++ [d]) → Below base w w' → wpList Tryd.prog ops Q rest (a.put o.dst v') w') : wpList Tryd.prog ops Q (o :: rest) a w := by
  obtain ⟨i, hi, hz, hsz, hby⟩ := info_parts dig_info
  refine wpList_append_own _ hgd s x _ ho base 29 i (dv zero) 16 16 Tryd.underlying22 hi hz hsz hby rfl (by decide) v n _ hs hown.own ⟨g, 0, none⟩ 1 1 (d.map bv) hx (by rw [List.length_map, hd]) (fun j u hu => ?_) (one_cells d) (by unfold maxLen; omega) (by omega) hbase ?_
  · rw [Addr.add_mid]
    exact hr j u hu
  · intro v' w' ho' hg _
    refine h v' w' ⟨by rw [cellsD_append, cellsD_one]; exact ho', hown.ok.append (Ok.one hd)⟩ ((Below.refl _ _).grown hg hbase (fun p hp => (hown.own.lt p hp).1))
end
/-- The block of a literal of one digest. -/
theorem lit_range (w : World) {d : List UInt8} (hd : d.length = 16) (t : TypeId) : (w.alloc (.cells (d.map bv).toArray t)).rangeAt w.heap.size 0 (d.map bv) := (dg_new w hd t).range
end Mk
end Go.Proofs.YthpkeaafgabjiaaDoor

/- The block of a literal slice of one array, as it is made cell by cell. No condition. -/
namespace Go.Proofs.YthpkeaafgabjiaaDoor
namespace Wire
theorem fold_cells_aux (cs : List Value) : ∀ (k : Nat) (z : Array Value), z.size = k + cs.length → List.foldl (fun c (x : Value × Nat) => c.setIfInBounds x.snd x.fst) z (cs.zipIdx k) = (z.toList.take k ++ cs).toArray := by
  induction cs with
  | nil =>
    intro k z hz
    have : z.toList.length ≤ k := by simp at hz ⊢; omega
    simp [List.take_of_length_le this]
  | cons x cs ih =>
    intro k z hz
    have hk : k < z.toList.length := by simp at hz ⊢; omega
    rw [List.zipIdx_cons, List.foldl_cons, ih (k + 1) _ (by simp at hz ⊢; omega)]
    congr 1
    have hk2 : k < (z.toList.set k x).length := by simpa using hk
    simp only [Array.toList_setIfInBounds]
    rw [List.take_add_one, List.take_set_of_le (Nat.le_refl _), List.getElem?_set_self hk]
    simp
theorem fold_cells {cs : List Value} {m : Nat} (hl : cs.length = m) (z : Array Value) (hz : z.size = m) : List.foldl (fun c (x : Value × Nat) => c.setIfInBounds x.snd x.fst) z cs.zipIdx = cs.toArray := by
  rw [fold_cells_aux cs 0 z (by omega)]; simp

end Wire
end Go.Proofs.YthpkeaafgabjiaaDoor

/- The reference of package merkle: Prove. Conditions: the slice reads as a list of digests, the tables are laid. -/
namespace Go.Proofs.YthpkeaafgabjiaaDoor
open Go.RowKit
namespace Mk
open Wire (bv sv Lies)
open Hash (bcj)

/-- A list of digests of one's own, and an error number. -/
def GivesP (l : List (List UInt8)) (k : Int) (w : World) (e : Ending) (w' : World) : Prop :=
  ∃ v n, e = .returned (.tuple #[v, .int .i64 k]) ∧ OwnD w' w.heap.size v n l ∧ Below w.heap.size w w'

set_option maxRecDepth 100000 in
set_option maxHeartbeats 1000000 in
theorem refProve_no (n c : Nat) (A : Option Addr) (i : Int) (hi : i < 0 ∨ (n : Int) ≤ i) (w : World) : Calls Tryd.prog 12 #[.slice A n c, .int .i64 i] w (GivesP [] 11 w) := by
  have hi2 : i < 0 ∨ (¬ i < 0 ∧ (n : Int) ≤ i) := by omega
  have H := Lib.hid (ownD_nil w w.heap.size)
  clear hi
  rcases hi2 with h | ⟨h, h2⟩
  all_goals
    go_enter Tryd.func12, Tryd.ntmps12
    go_wp2
    go_ret2
    exact ⟨_, _, rfl, H.out, Below.refl _ _⟩

set_option maxRecDepth 100000 in
set_option maxHeartbeats 1000000 in
theorem refProve_any : ∀ (n : Nat) (l : List (List UInt8)) (i c : Nat) (A : Option Addr) (w : World), n ≤ 1099511627776 → LiesD w w.heap.size A n c l → TT w → i < n →
    Calls Tryd.prog 12 #[.slice A n c, .int .i64 (i : Int)] w (GivesP (prove HH l i) 0 w) := by
  intro n
  induction n using Nat.strongRecOn with
  | _ n ih =>
    intro l i c A w hn hl ht hi
    have hln := hl.len
    have hmost : c ≤ 9223372036854775807 := by have := hl.lies.most; unfold maxLen at this; omega
    have hle := hl.lies.le
    have x0 : ¬ (i : Int) < 0 := by omega
    have x1 : ¬ (n : Int) ≤ (i : Int) := by omega
    by_cases h1 : n = 1
    · subst h1
      rw [prove_one HH (by omega)]
      have H := Lib.hid (ownD_nil w w.heap.size)
      clear ih hl ht hln
      go_enter Tryd.func12, Tryd.ntmps12
      go_wp2
      go_ret2
      exact ⟨_, _, rfl, H.out, Below.refl _ _⟩
    have h2 : 2 ≤ n := by omega
    have y1 : ¬ (n : Int) = 1 := by omega
    have y3 : ((n : Int) == 1) = false := by simpa using y1
    have hs1 := split_lt h2
    have hs2 := split_pos n
    have HSP := Lib.hid (fun W => refSplit_any n h2 (by omega) W)
    obtain ⟨d0, hd0⟩ : ∃ d, l[0]? = some d := ⟨_, List.getElem?_eq_getElem (by omega)⟩
    obtain ⟨b, o, rfl, -, -⟩ := hl.row hd0
    have HTT := Lib.hid ht
    have Z := Below.refl w.heap.size w
    by_cases hlow : i < split n
    · have hpr := prove_low HH (l := l) (i := i) (by omega) (by rw [hln]; exact hlow)
      rw [hln] at hpr
      rw [hpr]
      generalize split n = k at *
      have hA := hl.take (k := k) (by omega)
      have hB := hl.drop (k := k) (by omega)
      have HPA : Hid (∀ W, Below w.heap.size w W → Calls Tryd.prog 12 #[.slice (some ⟨b, o, none⟩) k c, .int .i64 (i : Int)] W (GivesP (prove HH (l.take k) i) 0 W)) := Lib.hid (fun W h => ih k hs1 _ i c _ W (by omega) ((hA.below h).more h.size) (HTT.out.on h) hlow)
      have HRB : Hid (∀ W, Below w.heap.size w W → Calls Tryd.prog 17 #[.slice (some ⟨b, o + k * 16, none⟩) (n - k) (c - k)] W (GivesD (root HH (l.drop k)) W)) := Lib.hid (fun W h => refRoot_any (n - k) _ (c - k) _ W ((hB.below h).more h.size) (HTT.out.on h))
      have HDL := Lib.hid (root_length (l.drop k))
      have z0 : (i : Int) < (k : Int) := by omega
      generalize root HH (l.drop k) = D at *
      have HPL : Hid (∀ v m W B, OwnD W B v m (prove HH (l.take k) i) → m ≤ 1099511627776) := Lib.hid (fun v m W B h => by
        have h1 := h.len
        have h2 := prove_length HH _ (l.take k) i rfl
        rw [List.length_take] at h2
        omega)
      generalize prove HH (l.take k) i = PA at *
      clear ih hl ht hln hd0 hA hB hpr
      go_enter Tryd.func12, Tryd.ntmps12
      go_wp2_with (first
        | (go_at_call 36; (with_reducible refine (HSP.out _).mono ?_); rintro e w3 ⟨rfl, hb⟩; replace Z := bcj Z hb; clear hb)
        | (go_at_call 12; (with_reducible refine (HPA.out _ Z).mono ?_); rintro e w4 ⟨v4, m4, rfl, ho, hb⟩; obtain ⟨A4, c4, rfl, -⟩ := ho.form; have HO := Lib.hid (ho.more Z.size); replace Z := bcj Z hb; clear hb ho)
        | (go_at_call 17; (with_reducible refine (HRB.out _ Z).mono ?_); rintro e w5 ⟨rfl, hb⟩; replace HO := Lib.hid (HO.out.on hb); replace Z := bcj Z hb; clear hb; unfold dv; have hDL := HDL.out)
        | (at_builtin; rw [Wire.fold_cells (cs := D.map bv) (m := 16) (by rw [List.length_map]; exact HDL.out) _ rfl]; refine append_d rfl (.tmp 36) (.tmp 41) rfl w.heap.size (.slice A4 m4 c4) m4 PA rfl (HO.out.on (Wire.b1 _ _)) w5.heap.size rfl D HDL.out (lit_range w5 HDL.out _) (HPL.out _ _ _ _ HO.out) (bcj Z (Wire.b1 _ _)).size ?_; intro v6 w6 ho6 hb6; have HO6 := Lib.hid ho6; replace Z := (bcj Z (Wire.b1 _ _)).trans hb6; clear ho6 hb6))
      go_ret2
      exact ⟨_, _, rfl, HO6.out, Z⟩
    · have hpr := prove_high HH (l := l) (i := i) (by omega) (by rw [hln]; exact hlow)
      rw [hln] at hpr
      rw [hpr]
      generalize split n = k at *
      have hA := hl.take (k := k) (by omega)
      have hB := hl.drop (k := k) (by omega)
      have HPA : Hid (∀ W, Below w.heap.size w W → Calls Tryd.prog 12 #[.slice (some ⟨b, o + k * 16, none⟩) (n - k) (c - k), .int .i64 ((i - k : Nat) : Int)] W (GivesP (prove HH (l.drop k) (i - k)) 0 W)) := Lib.hid (fun W h => ih (n - k) (by omega) _ (i - k) (c - k) _ W (by omega) ((hB.below h).more h.size) (HTT.out.on h) (by omega))
      have HRB : Hid (∀ W, Below w.heap.size w W → Calls Tryd.prog 17 #[.slice (some ⟨b, o, none⟩) k c] W (GivesD (root HH (l.take k)) W)) := Lib.hid (fun W h => refRoot_any k _ c _ W ((hA.below h).more h.size) (HTT.out.on h))
      have HDL := Lib.hid (root_length (l.take k))
      have z0 : ¬ (i : Int) < (k : Int) := by omega
      have z5 : wrap64 ((i : Int) - (k : Int)) = ((i - k : Nat) : Int) := by simp only [wrap64]; omega
      have z6 : (i : Int) - (k : Int) = ((i - k : Nat) : Int) := by omega
      generalize root HH (l.take k) = D at *
      have HPL : Hid (∀ v m W B, OwnD W B v m (prove HH (l.drop k) (i - k)) → m ≤ 1099511627776) := Lib.hid (fun v m W B h => by
        have h1 := h.len
        have h2 := prove_length HH _ (l.drop k) (i - k) rfl
        rw [List.length_drop] at h2
        omega)
      generalize prove HH (l.drop k) (i - k) = PA at *
      clear ih hl ht hln hd0 hA hB hpr
      go_enter Tryd.func12, Tryd.ntmps12
      go_wp2_with (first
        | (go_at_call 36; (with_reducible refine (HSP.out _).mono ?_); rintro e w3 ⟨rfl, hb⟩; replace Z := bcj Z hb; clear hb)
        | (go_at_call 12; (with_reducible refine (HPA.out _ Z).mono ?_); rintro e w4 ⟨v4, m4, rfl, ho, hb⟩; obtain ⟨A4, c4, rfl, -⟩ := ho.form; have HO := Lib.hid (ho.more Z.size); replace Z := bcj Z hb; clear hb ho)
        | (go_at_call 17; (with_reducible refine (HRB.out _ Z).mono ?_); rintro e w5 ⟨rfl, hb⟩; replace HO := Lib.hid (HO.out.on hb); replace Z := bcj Z hb; clear hb; unfold dv; have hDL := HDL.out)
        | (at_builtin; rw [Wire.fold_cells (cs := D.map bv) (m := 16) (by rw [List.length_map]; exact HDL.out) _ rfl]; refine append_d rfl _ _ rfl w.heap.size (.slice A4 m4 c4) m4 PA rfl (HO.out.on (Wire.b1 _ _)) w5.heap.size rfl D HDL.out (lit_range w5 HDL.out _) (HPL.out _ _ _ _ HO.out) (bcj Z (Wire.b1 _ _)).size ?_; intro v6 w6 ho6 hb6; have HO6 := Lib.hid ho6; replace Z := (bcj Z (Wire.b1 _ _)).trans hb6; clear ho6 hb6))
      go_ret2
      exact ⟨_, _, rfl, HO6.out, Z⟩
end Mk
end Go.Proofs.YthpkeaafgabjiaaDoor

/- The reference of package merkle: sub, ProvePrefix. Conditions: the slice reads as a list of digests, the tables are laid. -/
namespace Go.Proofs.YthpkeaafgabjiaaDoor
open Go.RowKit
namespace Mk
open Wire (bv sv Lies)
open Hash (bcj)

/-- A list of digests of one's own. -/
def GivesO (l : List (List UInt8)) (w : World) (e : Ending) (w' : World) : Prop :=
  ∃ v n, e = .returned v ∧ OwnD w' w.heap.size v n l ∧ Below w.heap.size w w'

theorem sub_length {D I : Type} (H : Hasher D I) : ∀ (n : Nat) (l : List D) (m : Nat) (w : Bool), l.length = n → 1 ≤ m → m ≤ l.length → (sub H l m w).length ≤ l.length := by
  intro n
  induction n using Nat.strongRecOn with
  | _ n ih =>
    intro l m w hl h1 hm
    by_cases h0 : m = l.length
    · cases w with
      | true => rw [sub_whole H h0]; exact Nat.zero_le _
      | false => rw [sub_part H h0, List.length_singleton]; omega
    · have h2 : 2 ≤ l.length := by omega
      have hs := split_lt h2
      have hp := split_pos l.length
      by_cases hlow : m ≤ split l.length
      · have := ih (l.take (split l.length)).length (by rw [List.length_take]; omega) (l.take (split l.length)) m w rfl h1 (by rw [List.length_take]; omega)
        rw [sub_low H h0 h2 hlow, List.length_append, List.length_singleton]
        rw [List.length_take] at this
        omega
      · have := ih (l.drop (split l.length)).length (by rw [List.length_drop]; omega) (l.drop (split l.length)) (m - split l.length) false rfl (by omega) (by rw [List.length_drop]; omega)
        rw [sub_high H h0 h2 hlow, List.length_append, List.length_singleton]
        rw [List.length_drop] at this
        omega
/-- What is left of a region, where it has one order. -/
theorem wpAny_tail {P : Program} {md : Region.Mode} {ops : List Oper} {Q : Exit → Act → World → Prop} {listed : Array Bool} {a : Act} {w : World} (n m : Nat) (hm : (ops.drop n).length = m) (hB : Region.seqB md ops.toArray m n listed = true)
    (h : wpList P ops.toArray Q (ops.drop n) a w) : wpAny P md ops.toArray Q m listed a w := by
  subst hm
  exact wpAny_of_seq (ops.drop n) n listed a w (fun j => by simp) hB h

/-- A literal of one digest is a list of one's own. -/
theorem own_litD (w : World) {d : List UInt8} (hd : d.length = 16) {base : Nat} (hb : base ≤ w.heap.size) : OwnD (w.alloc (.cells (d.map bv).toArray 29)) base (.slice (some ⟨w.heap.size, 0, none⟩) 1 1) 1 [d] :=
  ⟨by rw [cellsD_one]; exact World.ownsRow_lit w (d.map bv).toArray 1 hb (by decide) (by simp [hd]), Ok.one hd⟩

set_option maxRecDepth 100000 in
set_option maxHeartbeats 1000000 in
theorem refSub_any : ∀ (n : Nat) (l : List (List UInt8)) (m c : Nat) (whole : Bool) (A : Option Addr) (w : World), n ≤ 1099511627776 → LiesD w w.heap.size A n c l → TT w → 1 ≤ m → m ≤ n →
    Calls Tryd.prog 38 #[.slice A n c, .int .i64 (m : Int), .bool whole] w (GivesO (sub HH l m whole) w) := by
  intro n
  induction n using Nat.strongRecOn with
  | _ n ih =>
    intro l m c whole A w hn hl ht h1 hm
    have hln := hl.len
    have hmost : c ≤ 9223372036854775807 := by have := hl.lies.most; unfold maxLen at this; omega
    have hle := hl.lies.le
    have HTT := Lib.hid ht
    have Z := Below.refl w.heap.size w
    by_cases h0 : m = n
    · subst h0
      cases whole with
      | true =>
        rw [sub_whole HH hln.symm]
        have H := Lib.hid (ownD_nil w w.heap.size)
        clear ih hl ht hln
        go_enter Tryd.func38, Tryd.ntmps38
        go_wp2
        go_ret
        exact ⟨_, _, rfl, H.out, Z⟩
      | false =>
        rw [sub_part HH hln.symm]
        have HRB := Lib.hid (fun W (h : Below w.heap.size w W) => refRoot_any m l c A W ((hl.below h).more h.size) (HTT.out.on h))
        have HDL := Lib.hid (root_length l)
        generalize root HH l = D at *
        clear ih ht hl hln
        go_enter Tryd.func38, Tryd.ntmps38
        go_wp2_with (first
          | (go_at_call 17; (with_reducible refine (HRB.out _ Z).mono ?_); rintro e w5 ⟨rfl, hb⟩; replace Z := bcj Z hb; clear hb; unfold dv; have hDL := HDL.out))
        go_ret
        rw [Wire.fold_cells (cs := D.map bv) (m := 16) (by rw [List.length_map]; exact HDL.out) _ rfl]
        exact ⟨_, _, rfl, own_litD w5 HDL.out Z.size, bcj Z (Wire.b1 _ _)⟩
    · have h2 : 2 ≤ n := by omega
      have y1 : ¬ (m : Int) = (n : Int) := by omega
      have hs1 := split_lt h2
      have hs2 := split_pos n
      have HSP := Lib.hid (fun W => refSplit_any n h2 (by omega) W)
      obtain ⟨d0, hd0⟩ : ∃ d, l[0]? = some d := ⟨_, List.getElem?_eq_getElem (by omega)⟩
      obtain ⟨b, o, rfl, -, -⟩ := hl.row hd0
      by_cases hlow : m ≤ split n
      · have hpr := sub_low HH (l := l) (m := m) (w := whole) (by omega) (by omega) (by rw [hln]; exact hlow)
        rw [hln] at hpr
        rw [hpr]
        generalize split n = k at *
        have z0 : (m : Int) ≤ (k : Int) := by omega
        have hA := hl.take (k := k) (by omega)
        have hB := hl.drop (k := k) (by omega)
        have HPA : Hid (∀ W, Below w.heap.size w W → Calls Tryd.prog 38 #[.slice (some ⟨b, o, none⟩) k c, .int .i64 (m : Int), .bool whole] W (GivesO (sub HH (l.take k) m whole) W)) := Lib.hid (fun W h => ih k hs1 _ m c whole _ W (by omega) ((hA.below h).more h.size) (HTT.out.on h) h1 hlow)
        have HRB : Hid (∀ W, Below w.heap.size w W → Calls Tryd.prog 17 #[.slice (some ⟨b, o + k * 16, none⟩) (n - k) (c - k)] W (GivesD (root HH (l.drop k)) W)) := Lib.hid (fun W h => refRoot_any (n - k) _ (c - k) _ W ((hB.below h).more h.size) (HTT.out.on h))
        have HDL := Lib.hid (root_length (l.drop k))
        generalize root HH (l.drop k) = D at *
        have HPL : Hid (∀ v m2 W B, OwnD W B v m2 (sub HH (l.take k) m whole) → m2 ≤ 1099511627776) := Lib.hid (fun v m2 W B h => by
          have h1 := h.len
          have h2 := sub_length HH _ (l.take k) m whole rfl (by omega) (by rw [List.length_take]; omega)
          rw [List.length_take] at h2
          omega)
        generalize sub HH (l.take k) m whole = PA at *
        clear ih hl ht hln hd0 hA hB hpr
        go_enter Tryd.func38, Tryd.ntmps38
        go_wp2_with (first
          | (go_at_call 36; (with_reducible refine (HSP.out _).mono ?_); rintro e w3 ⟨rfl, hb⟩; replace Z := bcj Z hb; clear hb))
        have Z0 : Below w3.heap.size w3 w3.drew := ⟨rfl, rfl, rfl, Nat.le_refl _, fun _ _ => rfl⟩
        replace Z := bcj Z Z0
        refine wp_region_any (by kernel_rfl) ?_
        change wpAny _ _ _ _ _ _ _ (World.drew w3)
        (refine wpAny_take (i := 0) (v := ?_) rfl (by kernel_rfl) (by kernel_rfl) (by kernel_rfl) (fun _ _ _ h => h) (Or.inl ⟨by rfl, ?_⟩) ?_; rotate_left 1; focus (intro W; go_simp; try (first | with_reducible rfl | (rw [if_pos (by omega)]; done) | (rw [if_pos (by omega), if_neg (by omega)]; done) | (rw [if_neg (by omega)]; done))))
        (refine wpAny_take (i := 1) (v := ?_) rfl (by kernel_rfl) (by kernel_rfl) (by kernel_rfl) (fun _ _ _ h => h) (Or.inl ⟨by rfl, ?_⟩) ?_; rotate_left 1; focus (intro W; go_simp; try (first | with_reducible rfl | (rw [if_pos (by omega)]; done) | (rw [if_pos (by omega), if_neg (by omega)]; done) | (rw [if_neg (by omega)]; done))))
        (refine wpAny_take (i := 2) (v := ?_) rfl (by kernel_rfl) (by kernel_rfl) (by kernel_rfl) (fun _ _ _ h => h) (Or.inl ⟨by rfl, ?_⟩) ?_; rotate_left 1; focus (intro W; go_simp; try (first | with_reducible rfl | (rw [if_pos (by omega)]; done) | (rw [if_pos (by omega), if_neg (by omega)]; done) | (rw [if_neg (by omega)]; done))))
        (refine wpAny_take (i := 3) (v := ?_) rfl (by kernel_rfl) (by kernel_rfl) (by kernel_rfl) (fun _ _ _ h => h) (Or.inl ⟨by rfl, ?_⟩) ?_; rotate_left 1; focus (intro W; go_simp; try (first | with_reducible rfl | (rw [if_pos (by omega)]; done) | (rw [if_pos (by omega), if_neg (by omega)]; done) | (rw [if_neg (by omega)]; done))))
        (refine wpAny_take (i := 4) (v := ?_) rfl (by kernel_rfl) (by kernel_rfl) (by kernel_rfl) (fun _ _ _ h => h) (Or.inl ⟨by rfl, ?_⟩) ?_; rotate_left 1; focus (intro W; go_simp; try (first | with_reducible rfl | (rw [if_pos (by omega)]; done) | (rw [if_pos (by omega), if_neg (by omega)]; done) | (rw [if_neg (by omega)]; done))))
        (refine wpAny_take (i := 6) (v := ?_) rfl (by kernel_rfl) (by kernel_rfl) (by kernel_rfl) (fun _ _ _ h => h) (Or.inl ⟨by rfl, ?_⟩) ?_; rotate_left 1; focus (intro W; go_simp; try (first | with_reducible rfl | (rw [if_pos (by omega)]; done) | (rw [if_pos (by omega), if_neg (by omega)]; done) | (rw [if_neg (by omega)]; done))))
        (refine wpAny_take (i := 7) (v := ?_) rfl (by kernel_rfl) (by kernel_rfl) (by kernel_rfl) (fun _ _ _ h => h) (Or.inl ⟨by rfl, ?_⟩) ?_; rotate_left 1; focus (intro W; go_simp; try (first | with_reducible rfl | (rw [if_pos (by omega)]; done) | (rw [if_pos (by omega), if_neg (by omega)]; done) | (rw [if_neg (by omega)]; done))))
        (refine wpAny_take (i := 8) (v := ?_) rfl (by kernel_rfl) (by kernel_rfl) (by kernel_rfl) (fun _ _ _ h => h) (Or.inl ⟨by rfl, ?_⟩) ?_; rotate_left 1; focus (intro W; go_simp; try (first | with_reducible rfl | (rw [if_pos (by omega)]; done) | (rw [if_pos (by omega), if_neg (by omega)]; done) | (rw [if_neg (by omega)]; done))))
        refine wpAny_ready (rs := [5]) (by kernel_rfl) (by simp) (AllReady.cons rfl (fun K hK => ?_) AllReady.nil); go_simp
        go_wp2_with (first
          | (go_at_call 38; (with_reducible refine (HPA.out _ Z).mono ?_); rintro e w4 ⟨v4, m4, rfl, ho, hb⟩; obtain ⟨A4, c4, rfl, -⟩ := ho.form; have HO := Lib.hid (ho.more Z.size); replace Z := bcj Z hb; clear hb ho))
        refine wpAny_tail 9 4 rfl (by kernel_rfl) ?_
        simp only [List.drop_succ_cons, List.drop_zero]
        go_wp2_with (first
          | (go_at_call 17; (with_reducible refine (HRB.out _ Z).mono ?_); rintro e w5 ⟨rfl, hb⟩; replace HO := Lib.hid (HO.out.on hb); replace Z := bcj Z hb; clear hb; unfold dv; have hDL := HDL.out)
          | (at_builtin; rw [Wire.fold_cells (cs := D.map bv) (m := 16) (by rw [List.length_map]; exact HDL.out) _ rfl]; refine append_d rfl _ _ rfl w.heap.size (.slice A4 m4 c4) m4 PA rfl (HO.out.on (Wire.b1 _ _)) w5.heap.size rfl D HDL.out (lit_range w5 HDL.out _) (HPL.out _ _ _ _ HO.out) (bcj Z (Wire.b1 _ _)).size ?_; intro v6 w6 ho6 hb6; have HO6 := Lib.hid ho6; replace Z := (bcj Z (Wire.b1 _ _)).trans hb6; clear ho6 hb6))
        go_ret
        exact ⟨_, _, rfl, HO6.out, Z⟩
      · have hpr := sub_high HH (l := l) (m := m) (w := whole) (by omega) (by omega) (by rw [hln]; exact hlow)
        rw [hln] at hpr
        rw [hpr]
        generalize split n = k at *
        have z0 : ¬ (m : Int) ≤ (k : Int) := by omega
        have z5 : wrap64 ((m : Int) - (k : Int)) = ((m - k : Nat) : Int) := by simp only [wrap64]; omega
        have z6 : (m : Int) - (k : Int) = ((m - k : Nat) : Int) := by omega
        have y7 : ¬ c = k := by omega
        have z7 : IntKind.i64.wrap ((m - k : Nat) : Int) = ((m - k : Nat) : Int) := IntWalk.i64_in _ (by omega)
        have hA := hl.take (k := k) (by omega)
        have hB := hl.drop (k := k) (by omega)
        have HPA : Hid (∀ W, Below w.heap.size w W → Calls Tryd.prog 38 #[.slice (some ⟨b, o + k * 16, none⟩) (n - k) (c - k), .int .i64 ((m - k : Nat) : Int), .bool false] W (GivesO (sub HH (l.drop k) (m - k) false) W)) := Lib.hid (fun W h => ih (n - k) (by omega) _ (m - k) (c - k) false _ W (by omega) ((hB.below h).more h.size) (HTT.out.on h) (by omega) (by omega))
        have HRB : Hid (∀ W, Below w.heap.size w W → Calls Tryd.prog 17 #[.slice (some ⟨b, o, none⟩) k c] W (GivesD (root HH (l.take k)) W)) := Lib.hid (fun W h => refRoot_any k _ c _ W ((hA.below h).more h.size) (HTT.out.on h))
        have HDL := Lib.hid (root_length (l.take k))
        generalize root HH (l.take k) = D at *
        have HPL : Hid (∀ v m2 W B, OwnD W B v m2 (sub HH (l.drop k) (m - k) false) → m2 ≤ 1099511627776) := Lib.hid (fun v m2 W B h => by
          have h1 := h.len
          have h2 := sub_length HH _ (l.drop k) (m - k) false rfl (by omega) (by rw [List.length_drop]; omega)
          rw [List.length_drop] at h2
          omega)
        generalize sub HH (l.drop k) (m - k) false = PA at *
        clear ih hl ht hln hd0 hA hB hpr
        go_enter Tryd.func38, Tryd.ntmps38
        go_wp2_with (first
          | (go_at_call 36; (with_reducible refine (HSP.out _).mono ?_); rintro e w3 ⟨rfl, hb⟩; replace Z := bcj Z hb; clear hb))
        have Z0 : Below w3.heap.size w3 w3.drew := ⟨rfl, rfl, rfl, Nat.le_refl _, fun _ _ => rfl⟩
        replace Z := bcj Z Z0
        refine wp_region_any (by kernel_rfl) ?_
        change wpAny _ _ _ _ _ _ _ (World.drew w3)
        (refine wpAny_take (i := 0) (v := ?_) rfl (by kernel_rfl) (by kernel_rfl) (by kernel_rfl) (fun _ _ _ h => h) (Or.inl ⟨by rfl, ?_⟩) ?_; rotate_left 1; focus (intro W; go_simp; try (first | with_reducible rfl | (rw [if_pos (by omega)]; done) | (rw [if_pos (by omega), if_neg (by omega)]; done) | (rw [if_neg (by omega)]; done))))
        (refine wpAny_take (i := 1) (v := ?_) rfl (by kernel_rfl) (by kernel_rfl) (by kernel_rfl) (fun _ _ _ h => h) (Or.inl ⟨by rfl, ?_⟩) ?_; rotate_left 1; focus (intro W; go_simp; try (first | with_reducible rfl | (rw [if_pos (by omega)]; done) | (rw [if_pos (by omega), if_neg (by omega)]; done) | (rw [if_neg (by omega)]; done))))
        (refine wpAny_take (i := 2) (v := ?_) rfl (by kernel_rfl) (by kernel_rfl) (by kernel_rfl) (fun _ _ _ h => h) (Or.inl ⟨by rfl, ?_⟩) ?_; rotate_left 1; focus (intro W; go_simp; try (first | with_reducible rfl | (rw [if_pos (by omega)]; done) | (rw [if_pos (by omega), if_neg (by omega)]; done) | (rw [if_neg (by omega)]; done))))
        (refine wpAny_take (i := 3) (v := ?_) rfl (by kernel_rfl) (by kernel_rfl) (by kernel_rfl) (fun _ _ _ h => h) (Or.inl ⟨by rfl, ?_⟩) ?_; rotate_left 1; focus (intro W; go_simp; try (first | with_reducible rfl | (rw [if_pos (by omega)]; done) | (rw [if_pos (by omega), if_neg (by omega)]; done) | (rw [if_neg (by omega)]; done))))
        (refine wpAny_take (i := 4) (v := ?_) rfl (by kernel_rfl) (by kernel_rfl) (by kernel_rfl) (fun _ _ _ h => h) (Or.inl ⟨by rfl, ?_⟩) ?_; rotate_left 1; focus (intro W; go_simp; try (first | with_reducible rfl | (rw [if_pos (by omega)]; done) | (rw [if_pos (by omega), if_neg (by omega)]; done) | (rw [if_neg (by omega)]; done))))
        (refine wpAny_take (i := 5) (v := ?_) rfl (by kernel_rfl) (by kernel_rfl) (by kernel_rfl) (fun _ _ _ h => h) (Or.inl ⟨by rfl, ?_⟩) ?_; rotate_left 1; focus (intro W; go_simp; try (first | with_reducible rfl | (rw [if_pos (by omega)]; done) | (rw [if_pos (by omega), if_neg (by omega)]; done) | (rw [if_neg (by omega)]; done))))
        (refine wpAny_take (i := 7) (v := ?_) rfl (by kernel_rfl) (by kernel_rfl) (by kernel_rfl) (fun _ _ _ h => h) (Or.inl ⟨by rfl, ?_⟩) ?_; rotate_left 1; focus (intro W; go_simp; try (first | with_reducible rfl | (rw [if_pos (by omega)]; done) | (rw [if_pos (by omega), if_neg (by omega)]; done) | (rw [if_neg (by omega)]; done))))
        (refine wpAny_take (i := 8) (v := ?_) rfl (by kernel_rfl) (by kernel_rfl) (by kernel_rfl) (fun _ _ _ h => h) (Or.inl ⟨by rfl, ?_⟩) ?_; rotate_left 1; focus (intro W; go_simp; try (first | with_reducible rfl | (rw [if_pos (by omega)]; done) | (rw [if_pos (by omega), if_neg (by omega)]; done) | (rw [if_neg (by omega)]; done))))
        (refine wpAny_take (i := 9) (v := ?_) rfl (by kernel_rfl) (by kernel_rfl) (by kernel_rfl) (fun _ _ _ h => h) (Or.inl ⟨by rfl, ?_⟩) ?_; rotate_left 1; focus (intro W; go_simp; try (first | with_reducible rfl | (rw [if_pos (by omega)]; done) | (rw [if_pos (by omega), if_neg (by omega)]; done) | (rw [if_neg (by omega)]; done))))
        refine wpAny_ready (rs := [6]) (by kernel_rfl) (by simp) (AllReady.cons rfl (fun K hK => ?_) AllReady.nil); go_simp
        go_wp2_with (first
          | (go_at_call 38; (with_reducible refine (HPA.out _ Z).mono ?_); rintro e w4 ⟨v4, m4, rfl, ho, hb⟩; obtain ⟨A4, c4, rfl, -⟩ := ho.form; have HO := Lib.hid (ho.more Z.size); replace Z := bcj Z hb; clear hb ho))
        refine wpAny_tail 10 4 rfl (by kernel_rfl) ?_
        simp only [List.drop_succ_cons, List.drop_zero]
        go_wp2_with (first
          | (go_at_call 17; (with_reducible refine (HRB.out _ Z).mono ?_); rintro e w5 ⟨rfl, hb⟩; replace HO := Lib.hid (HO.out.on hb); replace Z := bcj Z hb; clear hb; unfold dv; have hDL := HDL.out)
          | (at_builtin; rw [Wire.fold_cells (cs := D.map bv) (m := 16) (by rw [List.length_map]; exact HDL.out) _ rfl]; refine append_d rfl _ _ rfl w.heap.size (.slice A4 m4 c4) m4 PA rfl (HO.out.on (Wire.b1 _ _)) w5.heap.size rfl D HDL.out (lit_range w5 HDL.out _) (HPL.out _ _ _ _ HO.out) (bcj Z (Wire.b1 _ _)).size ?_; intro v6 w6 ho6 hb6; have HO6 := Lib.hid ho6; replace Z := (bcj Z (Wire.b1 _ _)).trans hb6; clear ho6 hb6))
        go_ret
        exact ⟨_, _, rfl, HO6.out, Z⟩

set_option maxRecDepth 100000 in
set_option maxHeartbeats 1000000 in
theorem refProvePrefix_no (n c : Nat) (A : Option Addr) (m : Int) (hm : m < 1 ∨ (n : Int) < m) (w : World) : Calls Tryd.prog 14 #[.slice A n c, .int .i64 m] w (GivesP [] 11 w) := by
  have hi2 : m < 1 ∨ (¬ m < 1 ∧ (n : Int) < m) := by omega
  have H := Lib.hid (ownD_nil w w.heap.size)
  clear hm
  rcases hi2 with h | ⟨h, h2⟩
  all_goals
    go_enter Tryd.func14, Tryd.ntmps14
    go_wp2
    go_ret2
    exact ⟨_, _, rfl, H.out, Below.refl _ _⟩

set_option maxRecDepth 100000 in
set_option maxHeartbeats 1000000 in
theorem refProvePrefix_any (n : Nat) (l : List (List UInt8)) (m c : Nat) (A : Option Addr) (w : World) (hn : n ≤ 1099511627776) (hl : LiesD w w.heap.size A n c l) (ht : TT w) (h1 : 1 ≤ m) (hm : m ≤ n) :
    Calls Tryd.prog 14 #[.slice A n c, .int .i64 (m : Int)] w (GivesP (sub HH l m true) 0 w) := by
  have HS : Hid (∀ W, Below w.heap.size w W → Calls Tryd.prog 38 #[.slice A n c, .int .i64 (m : Int), .bool true] W (GivesO (sub HH l m true) W)) := Lib.hid (fun W h => refSub_any n l m c true A W hn ((hl.below h).more h.size) (ht.on h) h1 hm)
  have x0 : ¬ (m : Int) < 1 := by omega
  have x1 : ¬ (n : Int) < (m : Int) := by omega
  have Z := Below.refl w.heap.size w
  generalize sub HH l m true = PA at *
  clear hl ht
  go_enter Tryd.func14, Tryd.ntmps14
  go_wp2_with (first
    | (go_at_call 38; (with_reducible refine (HS.out _ Z).mono ?_); rintro e w4 ⟨v4, m4, rfl, ho, hb⟩; have HO := Lib.hid (ho.more Z.size); replace Z := bcj Z hb; clear hb ho))
  go_ret2
  exact ⟨_, _, rfl, HO.out, Z⟩
end Mk
end Go.Proofs.YthpkeaafgabjiaaDoor

