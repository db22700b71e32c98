/- MPkg; MLawT; MLawV: what each of these parts proves stands ahead of it. -/
import Derived.Test.YthpkeaafgabjiaaDoorM12
import Derived.Test.YthpkeaafgabjiaaDoorM13
import Derived.Test.YthpkeaafgabjiaaDoorM14
/- What the package merkle answers, as one structure; what its reference answers, for all integers. Conditions: those that each part names. -/
namespace Go.Proofs.YthpkeaafgabjiaaDoor
open Go.RowKit
namespace Mk
open Wire (bv sv Lies)
open Hash (Arr bcj)

/-- What a proof says of an element, for all integers. -/
def verI (n i : Int) (d : List UInt8) (p : List (List UInt8)) (root : List UInt8) : Bool :=
  if 0 ≤ i ∧ i < n then verd (inputs HH p.reverse n.toNat i.toNat d) root else false
/-- What a prefix proof says, for all integers. -/
def preI (m n : Int) (old root : List UInt8) (p : List (List UInt8)) : Bool :=
  if 1 ≤ m ∧ m ≤ n then (pair HH zero old p.reverse m.toNat n.toNat true).2.2 && (pair HH zero old p.reverse m.toNat n.toNat true).1 == old && (pair HH zero old p.reverse m.toNat n.toNat true).2.1 == root else false
/-- The hash inputs of a proof, for all integers. -/
def inpI (n i : Int) (d : List UInt8) (p : List (List UInt8)) : Option (List (List UInt8)) :=
  if 0 ≤ i ∧ i < n then inputs HH p.reverse n.toNat i.toNat d else none
/-- Two texts and whether they are there. -/
def GivesC3 (r : Option (List UInt8 × List UInt8)) (w : World) (e : Ending) (w' : World) : Prop :=
  ∃ A n c B m k, e = .returned (.tuple #[.slice A n c, .slice B m k, .bool r.isSome]) ∧ Below w.heap.size w w' ∧
    Lies w' w'.heap.size 1 A n c (((r.map (·.1)).getD []).map bv) ∧ Lies w' w'.heap.size 1 B m k (((r.map (·.2)).getD []).map bv)

structure Pkg : Prop where
  root : ∀ (n c : Nat) (A : Option Addr) (l : List (List UInt8)) (w : World), n ≤ 1000000 → LiesD w w.heap.size A n c l → TP w →
    Calls Tryd.prog 16 #[.slice A n c] w (GivesD (Mk.root HH l) w)
  proveNo : ∀ (n c : Nat) (A : Option Addr) (l : List (List UInt8)) (i : Int) (w : World), n ≤ 1000000 → LiesD w w.heap.size A n c l → TP w → (i < 0 ∨ (n : Int) ≤ i) →
    Calls Tryd.prog 11 #[.slice A n c, .int .i64 i] w (GivesP [] 11 w)
  prove : ∀ (n c i : Nat) (A : Option Addr) (l : List (List UInt8)) (w : World), n ≤ 1000000 → LiesD w w.heap.size A n c l → TP w → i < n →
    Calls Tryd.prog 11 #[.slice A n c, .int .i64 (i : Int)] w (GivesP (Mk.prove HH l i) 0 w)
  verify : ∀ (root d : List UInt8) (n i : Int) (q c : Nat) (A : Option Addr) (p : List (List UInt8)) (w : World), root.length = 16 → d.length = 16 → n ≤ 9223372036854775807 → q ≤ 1000000 → LiesD w w.heap.size A q c p → TP w →
    Calls Tryd.prog 18 #[dv root, .int .i64 n, .int .i64 i, dv d, .slice A q c] w (GivesT (verI n i d p root) w)
  provePreNo : ∀ (n c : Nat) (A : Option Addr) (l : List (List UInt8)) (m : Int) (w : World), n ≤ 1000000 → LiesD w w.heap.size A n c l → TP w → (m < 1 ∨ (n : Int) < m) →
    Calls Tryd.prog 13 #[.slice A n c, .int .i64 m] w (GivesP [] 11 w)
  provePre : ∀ (n c m : Nat) (A : Option Addr) (l : List (List UInt8)) (w : World), n ≤ 1000000 → LiesD w w.heap.size A n c l → TP w → 1 ≤ m → m ≤ n →
    Calls Tryd.prog 13 #[.slice A n c, .int .i64 (m : Int)] w (GivesP (Mk.sub HH l m true) 0 w)
  verifyPre : ∀ (old root : List UInt8) (m n : Int) (q c : Nat) (A : Option Addr) (p : List (List UInt8)) (w : World), old.length = 16 → root.length = 16 → n ≤ 9223372036854775807 → q ≤ 1000000 → LiesD w w.heap.size A q c p → TP w →
    Calls Tryd.prog 20 #[dv old, dv root, .int .i64 m, .int .i64 n, .slice A q c] w (GivesT (preI m n old root p) w)
  clash : ∀ (n i : Int) (a b : List UInt8) (q c q2 c2 : Nat) (A B : Option Addr) (p p2 : List (List UInt8)) (w : World), a.length = 16 → b.length = 16 → n ≤ 9223372036854775807 → q ≤ 1000000 → q2 ≤ 1000000 → LiesD w w.heap.size A q c p → LiesD w w.heap.size B q2 c2 p2 → TP w →
    Calls Tryd.prog 22 #[.int .i64 n, .int .i64 i, dv a, dv b, .slice A q c, .slice B q2 c2] w (GivesC3 (clashOf (inpI n i a p) (inpI n i b p2)) w)
  addNo : ∀ (n : Int) (A : Option Addr) (k c : Nat) (l : List (List UInt8)) (d : List UInt8) (w : World), d.length = 16 → LiesD w w.heap.size A k c l → TP w → (pkOk n k = false ∨ (pkOk n k = true ∧ n = 4294967296)) →
    Calls Tryd.prog 28 #[pkv n A k c, dv d] w (GivesK 0 [] 1 w)
  add : ∀ (m : Nat) (A : Option Addr) (k c : Nat) (l : List (List UInt8)) (d : List UInt8) (w : World), d.length = 16 → LiesD w w.heap.size A k c l → TP w → pkOk (m : Int) k = true → m < 4294967296 →
    Calls Tryd.prog 28 #[pkv (m : Int) A k c, dv d] w (GivesK ((m : Int) + 1) (added HH l m d) 0 w)
  topNo : ∀ (n : Int) (A : Option Addr) (k c : Nat) (l : List (List UInt8)) (w : World), LiesD w w.heap.size A k c l → TP w → pkOk n k = false →
    Calls Tryd.prog 29 #[pkv n A k c] w (GivesZ zero 1 w)
  top : ∀ (n : Int) (A : Option Addr) (k c : Nat) (l : List (List UInt8)) (w : World), LiesD w w.heap.size A k c l → TP w → pkOk n k = true →
    Calls Tryd.prog 29 #[pkv n A k c] w (GivesZ (topOf HH l.reverse) 0 w)

/-! ### The reference, for all integers -/
theorem refVerifyI (root d : List UInt8) (n i : Int) (q c : Nat) (A : Option Addr) (p : List (List UInt8)) (w : World) (hr : root.length = 16) (hd : d.length = 16) (hn : n ≤ 9223372036854775807) (hq : q ≤ 1000000) (hl : LiesD w w.heap.size A q c p) (ht : TT w) :
    Calls Tryd.prog 19 #[dv root, .int .i64 n, .int .i64 i, dv d, .slice A q c] w (GivesT (verI n i d p root) w) := by
  unfold verI
  by_cases h : 0 ≤ i ∧ i < n
  · rw [if_pos h]
    obtain ⟨a, rfl⟩ : ∃ a : Nat, n = (a : Int) := ⟨n.toNat, by omega⟩
    obtain ⟨b, rfl⟩ : ∃ b : Nat, i = (b : Int) := ⟨i.toNat, by omega⟩
    exact refVerify_any root d hr hd a b q c A w ht p hl hq (by omega) (by omega)
  · rw [if_neg h]
    exact refVerify_no root d hr hd n i q c A w ht (by omega)
theorem refVerifyPrefixI (old root : List UInt8) (m n : Int) (q c : Nat) (A : Option Addr) (p : List (List UInt8)) (w : World) (ho : old.length = 16) (hr : root.length = 16) (hn : n ≤ 9223372036854775807) (hl : LiesD w w.heap.size A q c p) (ht : TT w) :
    Calls Tryd.prog 21 #[dv old, dv root, .int .i64 m, .int .i64 n, .slice A q c] w (GivesT (preI m n old root p) w) := by
  unfold preI
  by_cases h : 1 ≤ m ∧ m ≤ n
  · rw [if_pos h]
    obtain ⟨a, rfl⟩ : ∃ a : Nat, n = (a : Int) := ⟨n.toNat, by omega⟩
    obtain ⟨b, rfl⟩ : ∃ b : Nat, m = (b : Int) := ⟨m.toNat, by omega⟩
    exact refVerifyPrefix_any old root ho hr p b a q c A w hl ht (by omega) (by omega) (by omega)
  · rw [if_neg h]
    exact refVerifyPrefix_no old root ho hr m n q c A w (by omega)
theorem refInputsI (d : List UInt8) (n i : Int) (q c : Nat) (A : Option Addr) (p : List (List UInt8)) (w : World) (hd : d.length = 16) (hn : n ≤ 9223372036854775807) (hq : q ≤ 1000000) (hl : LiesD w w.heap.size A q c p) (ht : TT w) :
    Calls Tryd.prog 25 #[.int .i64 n, .int .i64 i, dv d, .slice A q c] w (GivesI (inpI n i d p) w) := by
  unfold inpI
  by_cases h : 0 ≤ i ∧ i < n
  · rw [if_pos h]
    obtain ⟨a, rfl⟩ : ∃ a : Nat, n = (a : Int) := ⟨n.toNat, by omega⟩
    obtain ⟨b, rfl⟩ : ∃ b : Nat, i = (b : Int) := ⟨i.toNat, by omega⟩
    exact refInputs_any q p a b c A d w hq hl ht (by omega) (by omega) hd
  · rw [if_neg h]
    exact refInputs_no d hd n i q c A w (by omega)
theorem inpI_inp {n i : Int} {d : List UInt8} {p : List (List UInt8)} (hp : Ok p) (hd : d.length = 16) (hq : p.length ≤ 1000000) : Inp (inpI n i d p) := by
  unfold inpI
  split
  · exact inp_of (fun e he => hp e (List.mem_reverse.1 he)) hd (by rw [List.length_reverse]; exact hq)
  · exact inp_none
theorem inpI_len {n i : Int} {a b : List UInt8} {p p2 : List (List UInt8)} {L M : List (List UInt8)} (h1 : inpI n i a p = some L) (h2 : inpI n i b p2 = some M) : L.length = M.length := by
  unfold inpI at h1 h2
  split at h1
  · rename_i h
    rw [if_pos h] at h2
    have e1 := inputs_length HH _ _ _ _ _ h1
    have e2 := inputs_length HH _ _ _ _ _ h2
    have e3 := inputs_size HH _ _ _ _ _ _ _ _ h1 h2
    omega
  · cases h1
theorem refClashI (n i : Int) (a b : List UInt8) (q c q2 c2 : Nat) (A B : Option Addr) (p p2 : List (List UInt8)) (w : World) (ha : a.length = 16) (hb : b.length = 16) (hn : n ≤ 9223372036854775807) (hq : q ≤ 1000000) (hq2 : q2 ≤ 1000000) (hl : LiesD w w.heap.size A q c p) (hl2 : LiesD w w.heap.size B q2 c2 p2) (ht : TT w) :
    Calls Tryd.prog 23 #[.int .i64 n, .int .i64 i, dv a, dv b, .slice A q c, .slice B q2 c2] w (GivesC (clashOf (inpI n i a p) (inpI n i b p2)) w) := by
  have h1 : ∀ W, Below w.heap.size w W → Calls Tryd.prog 25 #[.int .i64 n, .int .i64 i, dv a, .slice A q c] W (GivesI (inpI n i a p) W) := fun W h => refInputsI a n i q c A p W ha hn hq ((hl.below h).more h.size) (ht.on h)
  have h2 : ∀ W, Below w.heap.size w W → Calls Tryd.prog 25 #[.int .i64 n, .int .i64 i, dv b, .slice B q2 c2] W (GivesI (inpI n i b p2) W) := fun W h => refInputsI b n i q2 c2 B p2 W hb hn hq2 ((hl2.below h).more h.size) (ht.on h)
  have I1 : Inp (inpI n i a p) := inpI_inp hl.ok ha (by rw [hl.len]; exact hq)
  have I2 : Inp (inpI n i b p2) := inpI_inp hl2.ok hb (by rw [hl2.len]; exact hq2)
  have hlen := fun L M => inpI_len (n := n) (i := i) (a := a) (b := b) (p := p) (p2 := p2) (L := L) (M := M)
  generalize inpI n i a p = o at *
  generalize inpI n i b p2 = o2 at *
  cases o with
  | none => exact refClash_none a b ha hb n i q c q2 c2 A B w none o2 (.inl rfl) h1 h2
  | some L =>
    cases o2 with
    | none =>
      obtain ⟨t, l, rfl⟩ := I1.ne _ rfl
      exact refClash_none a b ha hb n i q c q2 c2 A B w (some (t :: l)) none (.inr ⟨⟨_, rfl⟩, rfl⟩) h1 h2
    | some M =>
      obtain ⟨t, l, rfl⟩ := I1.ne _ rfl
      obtain ⟨s, m, rfl⟩ := I2.ne _ rfl
      exact refClash_some a b ha hb n i q c q2 c2 A B w ht t s l m l.length (Nat.le_of_succ_le_succ (I1.len _ rfl)) rfl (hlen _ _ rfl rfl).symm (I1.le _ rfl) (I2.le _ rfl) h1 h2
theorem refAddI (m : Nat) (A : Option Addr) (k c : Nat) (l : List (List UInt8)) (d : List UInt8) (w : World) (hd : d.length = 16) (hl : LiesD w w.heap.size A k c l) (ht : TT w) (h : pkOk (m : Int) k = true) (hm : m < 4294967296) :
    Calls Tryd.prog 32 #[pkv (m : Int) A k c, dv d] w (GivesK ((m : Int) + 1) (added HH l m d) 0 w) := by
  cases A with
  | none =>
    have hc : c = 0 := by
      rcases Nat.eq_zero_or_pos c with h | h
      · exact h
      · obtain ⟨_, _, e⟩ := hl.lies.some_ h; cases e
    have hk : k = 0 := by have := hl.lies.le; omega
    subst hc hk
    exact refAdd_nil m d hd l h hm w hl ht
  | some ad =>
    by_cases hc : c = 0
    · have hk : k = 0 := by have := hl.lies.le; omega
      subst hc hk
      exact refAdd_zero m ad d hd l h hm w hl ht
    · obtain ⟨b, o, e⟩ := hl.lies.some_ (by omega)
      cases e
      exact refAdd_some m b o k c d hd l h hm w hl ht
theorem refTopI (n : Int) (A : Option Addr) (k c : Nat) (l : List (List UInt8)) (w : World) (hl : LiesD w w.heap.size A k c l) (ht : TT w) (h : pkOk n k = true) :
    Calls Tryd.prog 33 #[pkv n A k c] w (GivesZ (topOf HH l.reverse) 0 w) := by
  cases k with
  | zero =>
    obtain rfl := List.eq_nil_of_length_eq_zero hl.len
    exact refTop_nil n A c h w ht
  | succ j => exact refTop_some n A j c l h w hl ht
end Mk
end Go.Proofs.YthpkeaafgabjiaaDoor

/- MerkleTreesMatchSpec, MerkleVerifyMatchesSpec walked. Conditions: what the package answers, that the examples hold, what came in, the tables are laid. -/
namespace Go.Proofs.YthpkeaafgabjiaaDoor
open Go.RowKit
namespace Mk
open Wire (bv sv Lies)
open Hash (Arr bcj)

theorem prove_both (pk : Pkg) (n c : Nat) (A : Option Addr) (l : List (List UInt8)) (i : Int) (w : World) (hn : n ≤ 1000000) (hl : LiesD w w.heap.size A n c l) (ht : TT w) : ∃ PL PK,
    (∀ W, Below w.heap.size w W → Calls Tryd.prog 11 #[.slice A n c, .int .i64 i] W (GivesP PL PK W)) ∧
    (∀ W, Below w.heap.size w W → Calls Tryd.prog 12 #[.slice A n c, .int .i64 i] W (GivesP PL PK W)) := by
  by_cases h : 0 ≤ i ∧ i < (n : Int)
  · obtain ⟨b, rfl⟩ : ∃ b : Nat, i = (b : Int) := ⟨i.toNat, by omega⟩
    exact ⟨prove HH l b, 0, fun W h2 => pk.prove n c b A l W hn ((hl.below h2).more h2.size) (ht.on h2).p (by omega), fun W h2 => refProve_any n l b c A W (Nat.le_trans hn (by decide)) ((hl.below h2).more h2.size) (ht.on h2) (by omega)⟩
  · exact ⟨[], 11, fun W h2 => pk.proveNo n c A l i W hn ((hl.below h2).more h2.size) (ht.on h2).p (by omega), fun W h2 => refProve_no n c A i (by omega) W⟩
theorem provePre_both (pk : Pkg) (n c : Nat) (A : Option Addr) (l : List (List UInt8)) (m : Int) (w : World) (hn : n ≤ 1000000) (hl : LiesD w w.heap.size A n c l) (ht : TT w) : ∃ PL PK,
    (∀ W, Below w.heap.size w W → Calls Tryd.prog 13 #[.slice A n c, .int .i64 m] W (GivesP PL PK W)) ∧
    (∀ W, Below w.heap.size w W → Calls Tryd.prog 14 #[.slice A n c, .int .i64 m] W (GivesP PL PK W)) := by
  by_cases h : 1 ≤ m ∧ m ≤ (n : Int)
  · obtain ⟨b, rfl⟩ : ∃ b : Nat, m = (b : Int) := ⟨m.toNat, by omega⟩
    exact ⟨sub HH l b true, 0, fun W h2 => pk.provePre n c b A l W hn ((hl.below h2).more h2.size) (ht.on h2).p (by omega) (by omega), fun W h2 => refProvePrefix_any n l b c A W (Nat.le_trans hn (by decide)) ((hl.below h2).more h2.size) (ht.on h2) (by omega) (by omega)⟩
  · exact ⟨[], 11, fun W h2 => pk.provePreNo n c A l m W hn ((hl.below h2).more h2.size) (ht.on h2).p (by omega), fun W h2 => refProvePrefix_no n c A m (by omega) W⟩

set_option maxRecDepth 100000 in
set_option maxHeartbeats 4000000 in
theorem law_trees (pk : Pkg) (hs : ∀ W, TT W → Calls Tryd.prog 10 #[] W (GivesT true W)) (l : List (List UInt8)) (n c : Nat) (A : Option Addr) (i m : Int) (w : World) (hl : LiesD w w.heap.size A n c l) (ht : TT w) :
    Calls Tryd.prog 3 #[.slice A n c, .int .i64 i, .int .i64 m] w (GivesT true w) := by
  have HSA := Lib.hid (hs w ht)
  have Z := Below.refl w.heap.size w
  by_cases hn : 70 < n
  · have z0 : (70 : Int) < (n : Int) := by omega
    clear hl ht hs
    go_enter Tryd.func3, Tryd.ntmps3
    go_wp2_with (first
      | (go_at_call 10; (with_reducible refine HSA.out.mono ?_); rintro e w1 ⟨rfl, hb⟩; replace Z := bcj Z hb; clear hb))
    go_ret
    exact ⟨rfl, Z⟩
  · have z0 : ¬ (70 : Int) < (n : Int) := by omega
    have hn2 : n ≤ 1000000 := Nat.le_trans (Nat.le_of_not_lt hn) (by decide)
    obtain ⟨PL, PK, hp1, hp2⟩ := prove_both pk n c A l i w hn2 hl ht
    obtain ⟨QL, QK, hq1, hq2⟩ := provePre_both pk n c A l m w hn2 hl ht
    have HP1 := Lib.hid hp1
    have HP2 := Lib.hid hp2
    have HQ1 := Lib.hid hq1
    have HQ2 := Lib.hid hq2
    have HR1 : Hid (∀ W, Below w.heap.size w W → Calls Tryd.prog 16 #[.slice A n c] W (Hash.GivesA ((root HH l).map bv) W)) := Lib.hid (fun W h => pk.root n c A l W hn2 ((hl.below h).more h.size) (ht.on h).p)
    have HR2 : Hid (∀ W, Below w.heap.size w W → Calls Tryd.prog 17 #[.slice A n c] W (Hash.GivesA ((root HH l).map bv) W)) := Lib.hid (fun W h => refRoot_any n l c A W ((hl.below h).more h.size) (ht.on h))
    have E1 := Lib.hid (fun W => eql_d (root HH l) (root HH l) (root_length l) (root_length l) W)
    have hbt : (root HH l == root HH l) = true := by simp
    rw [hbt] at E1
    generalize root HH l = R at *
    clear hl ht hs hn hn2 hp1 hp2 hq1 hq2 hbt
    go_enter Tryd.func3, Tryd.ntmps3
    go_wp2_with (first
      | (go_at_call 10; (with_reducible refine HSA.out.mono ?_); rintro e w1 ⟨rfl, hb⟩; replace Z := bcj Z hb; clear hb)
      | (go_at_call 11; (with_reducible refine (HP1.out _ Z).mono ?_); rintro e w2 ⟨v2, n2, rfl, ho, hb⟩; obtain ⟨A2, c2, rfl, hL⟩ := ho.form; have HL2 := Lib.hid hL; replace Z := bcj Z hb; clear hb ho hL)
      | (go_at_call 12; (with_reducible refine (HP2.out _ Z).mono ?_); rintro e w3 ⟨v3, n3, rfl, ho, hb⟩; obtain ⟨A3, c3, rfl, hL⟩ := ho.form; have HL3 := Lib.hid hL; replace HL2 := Lib.hid (HL2.out.on hb); replace Z := bcj Z hb; clear hb ho hL)
      | (go_at_call 13; (with_reducible refine (HQ1.out _ Z).mono ?_); rintro e w4 ⟨v4, n4, rfl, ho, hb⟩; obtain ⟨A4, c4, rfl, hL⟩ := ho.form; have HL4 := Lib.hid hL; replace HL2 := Lib.hid (HL2.out.on hb); replace HL3 := Lib.hid (HL3.out.on hb); replace Z := bcj Z hb; clear hb ho hL)
      | (go_at_call 14; (with_reducible refine (HQ2.out _ Z).mono ?_); rintro e w5 ⟨v5, n5, rfl, ho, hb⟩; obtain ⟨A5, c5, rfl, hL⟩ := ho.form; have HL5 := Lib.hid hL; replace HL2 := Lib.hid (HL2.out.on hb); replace HL3 := Lib.hid (HL3.out.on hb); replace HL4 := Lib.hid (HL4.out.on hb); replace Z := bcj Z hb; clear hb ho hL)
      | (go_at_call 15; (with_reducible refine (refSame_any PL PL _ _ _ _ _ _ _ HL2.out HL3.out).mono ?_); rintro e w6 ⟨he, hb⟩; rw [decide_eq_true rfl] at he; subst he; replace HL4 := Lib.hid (HL4.out.on hb); replace HL5 := Lib.hid (HL5.out.on hb); replace Z := bcj Z hb; clear hb HL2 HL3)
      | (go_at_call 15; (with_reducible refine (refSame_any QL QL _ _ _ _ _ _ _ HL4.out HL5.out).mono ?_); rintro e w7 ⟨he, hb⟩; rw [decide_eq_true rfl] at he; subst he; replace Z := bcj Z hb; clear hb HL4 HL5)
      | (go_at_call 16; (with_reducible refine (HR1.out _ Z).mono ?_); rintro e w8 ⟨rfl, hb⟩; replace Z := bcj Z hb; clear hb; have e1 := E1.out)
      | (go_at_call 17; (with_reducible refine (HR2.out _ Z).mono ?_); rintro e w9 ⟨rfl, hb⟩; replace Z := bcj Z hb; clear hb))
    go_ret
    exact ⟨by simp, Z⟩
end Mk
end Go.Proofs.YthpkeaafgabjiaaDoor

/- MerkleVerifyMatchesSpec walked. Conditions: what the package answers, that the examples hold, what came in, the tables are laid. -/
namespace Go.Proofs.YthpkeaafgabjiaaDoor
open Go.RowKit
namespace Mk
open Wire (bv sv Lies)
open Hash (Arr bcj)

/-- The arguments of a verification in one row of cells. -/
def cellsI (old root : List UInt8) (n i : Int) (d : List UInt8) (A : Option Addr) (q c : Nat) : List Value :=
  old.map bv ++ (root.map bv ++ ([Value.int .i64 n, .int .i64 i] ++ (d.map bv ++ [Value.slice A q c])))
def iv (old root : List UInt8) (n i : Int) (d : List UInt8) (A : Option Addr) (q c : Nat) : Value := .agg (cellsI old root n i d A q c).toArray
theorem range_app {W : World} {g off : Nat} {xs ys zs : List Value} (h : W.rangeAt g off (xs ++ (ys ++ zs))) : W.rangeAt g (off + xs.length) ys := fun j u hu => by
  have hj : j < ys.length := (List.getElem?_eq_some_iff.1 hu).1
  have := h (xs.length + j) u (by rw [List.getElem?_append_right (by omega), show xs.length + j - xs.length = j by omega, List.getElem?_append_left hj]; exact hu)
  rwa [← Nat.add_assoc] at this
theorem range_left {W : World} {g off : Nat} {xs ys : List Value} (h : W.rangeAt g off (xs ++ ys)) : W.rangeAt g off xs := fun j u hu => by
  refine h j u ?_
  rw [List.getElem?_append_left (List.getElem?_eq_some_iff.1 hu).1]
  exact hu
theorem range_right {W : World} {g off : Nat} {xs ys : List Value} (h : W.rangeAt g off (xs ++ ys)) : W.rangeAt g (off + xs.length) ys := fun j u hu => by
  have := h (xs.length + j) u (by rw [List.getElem?_append_right (by omega), show xs.length + j - xs.length = j by omega]; exact hu)
  rwa [← Nat.add_assoc] at this
/-- What came in lies in a block of its own. -/
structure Iv (W : World) (g : Nat) (old root : List UInt8) (n i : Int) (d : List UInt8) (A : Option Addr) (q c : Nat) : Prop where
  arr : Arr W g 51 (cellsI old root n i d A q c)
  o : old.length = 16
  r : root.length = 16
  d : d.length = 16
section
variable {W W' : World} {g q c : Nat} {old root d : List UInt8} {n i : Int} {A : Option Addr}
theorem Iv.on (h : Iv W g old root n i d A q c) (hb : Below W.heap.size W W') : Iv W' g old root n i d A q c := ⟨h.arr.below hb (h.arr.size (by omega)), h.o, h.r, h.d⟩
theorem Iv.rOld (h : Iv W g old root n i d A q c) : W.rangeAt g 0 (old.map bv) := range_left h.arr.range
theorem Iv.rRoot (h : Iv W g old root n i d A q c) : W.rangeAt g 16 (root.map bv) := by
  have h1 := range_app h.arr.range
  rwa [List.length_map, h.o] at h1
theorem Iv.rRest (h : Iv W g old root n i d A q c) : W.rangeAt g 32 ([Value.int .i64 n, .int .i64 i] ++ (d.map bv ++ [Value.slice A q c])) := by
  have h1 := range_right (range_right h.arr.range)
  rwa [List.length_map, List.length_map, h.o, h.r] at h1
theorem Iv.cN (h : Iv W g old root n i d A q c) : W.cell? ⟨g, 32, none⟩ = some (.int .i64 n) := h.rRest 0 _ rfl
theorem Iv.cI (h : Iv W g old root n i d A q c) : W.cell? ⟨g, 33, none⟩ = some (.int .i64 i) := h.rRest 1 _ rfl
theorem Iv.rLeaf (h : Iv W g old root n i d A q c) : W.rangeAt g 34 (d.map bv) := range_app h.rRest
theorem Iv.cP (h : Iv W g old root n i d A q c) : W.cell? ⟨g, 50, none⟩ = some (.slice A q c) := by
  have h1 := range_right (range_right h.rRest)
  rw [List.length_map, h.d] at h1
  exact h1 0 _ rfl
theorem iv_new (W : World) (ho : old.length = 16) (hr : root.length = 16) (hd : d.length = 16) (t : TypeId) : Iv (W.alloc (.cells (cellsI old root n i d A q c).toArray t)) W.heap.size old root n i d A q c := by
  have h := Hash.arr_new W (cellsI old root n i d A q c).toArray t
  have hs : (cellsI old root n i d A q c).toArray.size = 51 := by simp [cellsI, ho, hr, hd]
  rw [hs] at h
  exact ⟨h, ho, hr, hd⟩
end
structure Ivz (w W : World) (old root : List UInt8) (n i : Int) (d : List UInt8) (A : Option Addr) (q c : Nat) : Prop where
  a : Iv W w.heap.size old root n i d A q c
  z : Below w.heap.size w W
theorem Ivz.on {w W W' : World} {old root d : List UInt8} {n i : Int} {A : Option Addr} {q c : Nat} (h : Ivz w W old root n i d A q c) (hb : Below W.heap.size W W') : Ivz w W' old root n i d A q c := ⟨h.a.on hb, bcj h.z hb⟩

set_option maxRecDepth 100000 in
set_option maxHeartbeats 4000000 in
theorem law_verify (pk : Pkg) (hs : ∀ W, TT W → Calls Tryd.prog 10 #[] W (GivesT true W)) (old root d : List UInt8) (n i : Int) (q c : Nat) (A : Option Addr) (p : List (List UInt8)) (w : World) (ho : old.length = 16) (hr : root.length = 16) (hd : d.length = 16) (hnn : n ≤ 9223372036854775807)
    (hl : LiesD w w.heap.size A q c p) (ht : TT w) :
    Calls Tryd.prog 4 #[iv old root n i d A q c] w (GivesT true w) := by
  have Y : Ivz w (w.alloc (.cells (cellsI old root n i d A q c).toArray 33)) old root n i d A q c := ⟨iv_new w ho hr hd _, Wire.b1 _ _⟩
  have HSA := Lib.hid (fun W (h : Below w.heap.size w W) => hs W (ht.on h))
  have HO := Lib.hid ho
  have HR := Lib.hid hr
  have HD := Lib.hid hd
  have HCN : Hid (∀ W, Ivz w W old root n i d A q c → W.cell? ⟨w.heap.size, 32, none⟩ = some (.int .i64 n)) := Lib.hid (fun W h => h.a.cN)
  have HCI : Hid (∀ W, Ivz w W old root n i d A q c → W.cell? ⟨w.heap.size, 33, none⟩ = some (.int .i64 i)) := Lib.hid (fun W h => h.a.cI)
  have HCP : Hid (∀ W, Ivz w W old root n i d A q c → W.cell? ⟨w.heap.size, 50, none⟩ = some (.slice A q c)) := Lib.hid (fun W h => h.a.cP)
  have hcl : (cellsI old root n i d A q c).toArray.size = 51 := by simp [cellsI, ho, hr, hd]
  unfold iv
  by_cases hn : 70 < q
  · have z0 : (70 : Int) < (q : Int) := by omega
    clear hl ht hs ho hr hd
    generalize (cellsI old root n i d A q c).toArray = ca at *
    go_enter Tryd.func4, Tryd.ntmps4
    go_wp2_with (first
      | (go_at_call 10; (with_reducible refine (HSA.out _ Y.z).mono ?_); rintro e w1 ⟨rfl, hb⟩; replace Y := Y.on hb; clear hb; have hcp := HCP.out _ Y))
    go_ret
    exact ⟨rfl, Y.z⟩
  · have z0 : ¬ (70 : Int) < (q : Int) := by omega
    have hq2 : q ≤ 1000000 := Nat.le_trans (Nat.le_of_not_lt hn) (by decide)
    have HV1 := Lib.hid (fun W (h : Below w.heap.size w W) => pk.verify root d n i q c A p W hr hd hnn hq2 ((hl.below h).more h.size) (ht.on h).p)
    have HV2 := Lib.hid (fun W (h : Below w.heap.size w W) => refVerifyI root d n i q c A p W hr hd hnn hq2 ((hl.below h).more h.size) (ht.on h))
    have HP1 := Lib.hid (fun W (h : Below w.heap.size w W) => pk.verifyPre old root i n q c A p W ho hr hnn hq2 ((hl.below h).more h.size) (ht.on h).p)
    have HP2 := Lib.hid (fun W (h : Below w.heap.size w W) => refVerifyPrefixI old root i n q c A p W ho hr hnn ((hl.below h).more h.size) (ht.on h))
    generalize verI n i d p root = B1 at *
    generalize preI i n old root p = B2 at *
    clear hl ht hs hn hq2 hnn ho hr hd
    generalize (cellsI old root n i d A q c).toArray = ca at *
    go_enter Tryd.func4, Tryd.ntmps4
    go_wp2_with (first
      | (go_at_call 10; (with_reducible refine (HSA.out _ Y.z).mono ?_); rintro e w1 ⟨rfl, hb⟩; replace Y := Y.on hb; clear hb; have hcp := HCP.out _ Y; have hci := HCI.out _ Y; have hcn := HCN.out _ Y)
      | (refine load_d 15 rfl rfl _ rfl w.heap.size 16 rfl root HR.out Y.a.rRoot ?_)
      | (refine load_d 21 rfl rfl _ rfl w.heap.size 34 rfl d HD.out Y.a.rLeaf ?_)
      | (go_at_call 18; (with_reducible refine (HV1.out _ Y.z).mono ?_); rintro e w2 ⟨rfl, hb⟩; replace Y := Y.on hb; clear hb hcp hci hcn; have hcp := HCP.out _ Y; have hci := HCI.out _ Y; have hcn := HCN.out _ Y)
      | (refine load_d 26 rfl rfl _ rfl w.heap.size 16 rfl root HR.out Y.a.rRoot ?_)
      | (refine load_d 32 rfl rfl _ rfl w.heap.size 34 rfl d HD.out Y.a.rLeaf ?_)
      | (go_at_call 19; (with_reducible refine (HV2.out _ Y.z).mono ?_); rintro e w3 ⟨rfl, hb⟩; replace Y := Y.on hb; clear hb hcp hci hcn; have hcp := HCP.out _ Y; have hci := HCI.out _ Y; have hcn := HCN.out _ Y)
      | (refine load_d 37 rfl rfl _ rfl w.heap.size 0 rfl old HO.out Y.a.rOld ?_)
      | (refine load_d 39 rfl rfl _ rfl w.heap.size 16 rfl root HR.out Y.a.rRoot ?_)
      | (go_at_call 20; (with_reducible refine (HP1.out _ Y.z).mono ?_); rintro e w4 ⟨rfl, hb⟩; replace Y := Y.on hb; clear hb hcp hci hcn; have hcp := HCP.out _ Y; have hci := HCI.out _ Y; have hcn := HCN.out _ Y)
      | (refine load_d 48 rfl rfl _ rfl w.heap.size 0 rfl old HO.out Y.a.rOld ?_)
      | (refine load_d 50 rfl rfl _ rfl w.heap.size 16 rfl root HR.out Y.a.rRoot ?_)
      | (go_at_call 21; (with_reducible refine (HP2.out _ Y.z).mono ?_); rintro e w5 ⟨rfl, hb⟩; replace Y := Y.on hb; clear hb))
    go_ret
    exact ⟨by simp, Y.z⟩
end Mk
end Go.Proofs.YthpkeaafgabjiaaDoor

