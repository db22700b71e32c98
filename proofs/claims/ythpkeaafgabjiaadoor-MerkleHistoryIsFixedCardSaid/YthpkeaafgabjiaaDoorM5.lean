/- Mk; MkC; MkP; MkG: what each of these parts proves stands ahead of it. -/
import Derived.KernelRfl
/- Merkle trees as mathematics: roots, proofs, prefix proofs, over any two kinds of hash inputs. No condition but those that are named. -/
namespace Go.Proofs.YthpkeaafgabjiaaDoor
namespace Mk

/-- The greatest power of 2 that is less than n, for n of at least 2. -/
def IsSplit (n k : Nat) : Prop := (∃ j, k = 2 ^ j) ∧ k < n ∧ n ≤ 2 * k
def split (n : Nat) : Nat := 2 ^ (n - 1).log2
theorem split_is {n : Nat} (h : 2 ≤ n) : IsSplit n (split n) := by
  have h0 : n - 1 ≠ 0 := by omega
  have h1 := Nat.log2_self_le h0
  have h2 := Nat.lt_log2_self (n := n - 1)
  refine ⟨⟨_, rfl⟩, ?_, ?_⟩
  · unfold split; omega
  · unfold split
    rw [Nat.pow_succ] at h2
    omega
theorem pow_between {i j n : Nat} (h1 : 2 ^ i < n) (h2 : n ≤ 2 * 2 ^ j) : i ≤ j := by
  rcases Nat.lt_or_ge j i with h | h
  · have : 2 ^ (j + 1) ≤ 2 ^ i := Nat.pow_le_pow_right (by omega) h
    rw [Nat.pow_succ] at this
    omega
  · exact h
theorem IsSplit.unique {n a b : Nat} (ha : IsSplit n a) (hb : IsSplit n b) : a = b := by
  obtain ⟨⟨i, rfl⟩, h1, h2⟩ := ha
  obtain ⟨⟨j, rfl⟩, h3, h4⟩ := hb
  rw [Nat.le_antisymm (pow_between h1 h4) (pow_between h3 h2)]
theorem split_eq {n k : Nat} (h : IsSplit n k) : split n = k := by
  have h2 : 2 ≤ n := by
    obtain ⟨⟨j, rfl⟩, h1, _⟩ := h
    have := Nat.one_le_two_pow (n := j)
    omega
  exact (split_is h2).unique h
theorem split_lt {n : Nat} (h : 2 ≤ n) : split n < n := (split_is h).2.1
theorem split_ge {n : Nat} (h : 2 ≤ n) : n ≤ 2 * split n := (split_is h).2.2
theorem split_pos (n : Nat) : 1 ≤ split n := Nat.one_le_two_pow
/-- Where the first part ends, all lists between have it as their first part. -/
theorem split_mid {m n : Nat} (h1 : split n < m) (h2 : m ≤ n) : split m = split n := by
  have hn : 2 ≤ n := by have := split_pos n; omega
  exact split_eq ⟨(split_is hn).1, h1, Nat.le_trans h2 (split_ge hn)⟩

section
variable {D I : Type}
/-- The two kinds of hash inputs, the digest of an input, and that of no element. -/
structure Hasher (D I : Type) where
  li : D → I
  ni : D → D → I
  sh : I → D
  nil : D
variable (H : Hasher D I)
def Hasher.leaf (d : D) : D := H.sh (H.li d)
def Hasher.node (a b : D) : D := H.sh (H.ni a b)

/-- The root of the tree of a list. -/
def root (l : List D) : D :=
  if _h : 2 ≤ l.length then H.node (root (l.take (split l.length))) (root (l.drop (split l.length)))
  else match l with
    | [] => H.nil
    | d :: _ => H.leaf d
termination_by l.length
decreasing_by
  · rw [List.length_take]; have := split_lt ‹2 ≤ l.length›; omega
  · rw [List.length_drop]; have := split_pos l.length; omega
theorem root_nil : root H [] = H.nil := by rw [root]; simp
theorem root_one (d : D) : root H [d] = H.leaf d := by rw [root]; simp
theorem root_two {l : List D} (h : 2 ≤ l.length) : root H l = H.node (root H (l.take (split l.length))) (root H (l.drop (split l.length))) := by
  rw [root, dif_pos h]
theorem root_append {a b : List D} (h : IsSplit (a.length + b.length) a.length) : root H (a ++ b) = H.node (root H a) (root H b) := by
  have hl : (a ++ b).length = a.length + b.length := by simp
  have h2 : 2 ≤ (a ++ b).length := by
    obtain ⟨⟨j, e⟩, h1, _⟩ := h
    have := Nat.one_le_two_pow (n := j)
    omega
  rw [root_two H h2, hl, split_eq h, List.take_left, List.drop_left]

/-- The siblings of a path, the one nearest to the element first. -/
def prove (l : List D) (i : Nat) : List D :=
  if _h : 2 ≤ l.length then
    if i < split l.length then prove (l.take (split l.length)) i ++ [root H (l.drop (split l.length))]
    else prove (l.drop (split l.length)) (i - split l.length) ++ [root H (l.take (split l.length))]
  else []
termination_by l.length
decreasing_by
  · rw [List.length_take]; have := split_lt ‹2 ≤ l.length›; omega
  · rw [List.length_drop]; have := split_pos l.length; omega
theorem prove_low {l : List D} {i : Nat} (h : 2 ≤ l.length) (hi : i < split l.length) : prove H l i = prove H (l.take (split l.length)) i ++ [root H (l.drop (split l.length))] := by
  rw [prove, dif_pos h, if_pos hi]
theorem prove_high {l : List D} {i : Nat} (h : 2 ≤ l.length) (hi : ¬ i < split l.length) : prove H l i = prove H (l.drop (split l.length)) (i - split l.length) ++ [root H (l.take (split l.length))] := by
  rw [prove, dif_pos h, if_neg hi]
theorem prove_one {l : List D} {i : Nat} (h : ¬ 2 ≤ l.length) : prove H l i = [] := by
  rw [prove, dif_neg h]

/-- The hash inputs of a proof that is read from its end, the one of the root first. -/
def inputs : List D → Nat → Nat → D → Option (List I)
  | [], n, _, d => if n = 1 then some [H.li d] else none
  | x :: r, n, i, d =>
    if n ≤ 1 then none
    else if i < split n then
      match inputs r (split n) i d with
      | some (t :: l) => some (H.ni (H.sh t) x :: t :: l)
      | _ => none
    else
      match inputs r (n - split n) (i - split n) d with
      | some (t :: l) => some (H.ni x (H.sh t) :: t :: l)
      | _ => none
/-- What a proof that is read from its end leads to. -/
def top (l : List D) (n i : Nat) (d : D) : Option D :=
  match inputs H l n i d with
  | some (t :: _) => some (H.sh t)
  | _ => none
theorem inputs_ne {r : List D} {n i : Nat} {d : D} {l : List I} (h : inputs H r n i d = some l) : ∃ t q, l = t :: q := by
  cases r with
  | nil =>
    rw [inputs] at h
    split at h
    · cases h; exact ⟨_, _, rfl⟩
    · cases h
  | cons x r =>
    rw [inputs] at h
    split at h
    · cases h
    · split at h
      · split at h
        · cases h; exact ⟨_, _, rfl⟩
        · cases h
      · split at h
        · cases h; exact ⟨_, _, rfl⟩
        · cases h
theorem inputs_low {r : List D} {x d : D} {n i : Nat} {l : List I} (hn : 2 ≤ n) (hi : i < split n) (h : inputs H (x :: r) n i d = some l) :
    ∃ t q, inputs H r (split n) i d = some (t :: q) ∧ l = H.ni (H.sh t) x :: t :: q := by
  rw [inputs, if_neg (by omega), if_pos hi] at h
  split at h
  · rename_i t q e
    cases h; exact ⟨t, q, e, rfl⟩
  · cases h
theorem inputs_high {r : List D} {x d : D} {n i : Nat} {l : List I} (hn : 2 ≤ n) (hi : ¬ i < split n) (h : inputs H (x :: r) n i d = some l) :
    ∃ t q, inputs H r (n - split n) (i - split n) d = some (t :: q) ∧ l = H.ni x (H.sh t) :: t :: q := by
  rw [inputs, if_neg (by omega), if_neg hi] at h
  split at h
  · rename_i t q e
    cases h; exact ⟨t, q, e, rfl⟩
  · cases h
theorem inputs_one {r : List D} {d : D} {i : Nat} {l : List I} (h : inputs H r 1 i d = some l) : r = [] ∧ l = [H.li d] := by
  cases r with
  | nil => rw [inputs, if_pos rfl] at h; cases h; exact ⟨rfl, rfl⟩
  | cons x r => rw [inputs, if_pos (by omega)] at h; cases h
theorem inputs_more {r : List D} {d : D} {n i : Nat} {l : List I} (hn : 2 ≤ n) (h : inputs H r n i d = some l) : ∃ x q, r = x :: q := by
  cases r with
  | nil => rw [inputs, if_neg (by omega)] at h; cases h
  | cons x r => exact ⟨x, r, rfl⟩

/-- What is proved is accepted. -/
theorem prove_inputs : ∀ (n : Nat) (l : List D) (i : Nat) (d : D), l.length = n → l[i]? = some d →
    ∃ t q, inputs H (prove H l i).reverse l.length i d = some (t :: q) ∧ H.sh t = root H l := by
  intro n
  induction n using Nat.strongRecOn with
  | _ n ih =>
    intro l i d hl hi
    have hil : i < l.length := (List.getElem?_eq_some_iff.1 hi).1
    by_cases h2 : 2 ≤ l.length
    · have hs := split_lt h2
      have hp := split_pos l.length
      by_cases hlow : i < split l.length
      · obtain ⟨t, q, h3, h4⟩ := ih (l.take (split l.length)).length (by rw [List.length_take]; omega) (l.take (split l.length)) i d rfl (by rw [List.getElem?_take_of_lt hlow]; exact hi)
        have hlen : (l.take (split l.length)).length = split l.length := by rw [List.length_take]; omega
        rw [hlen] at h3
        rw [prove_low H h2 hlow, List.reverse_append, List.reverse_singleton, List.singleton_append, inputs, if_neg (by omega), if_pos hlow, h3, root_two H h2]
        exact ⟨_, _, rfl, by rw [h4]; rfl⟩
      · have hlen : (l.drop (split l.length)).length = l.length - split l.length := by rw [List.length_drop]
        obtain ⟨t, q, h3, h4⟩ := ih (l.drop (split l.length)).length (by rw [List.length_drop]; omega) (l.drop (split l.length)) (i - split l.length) d rfl (by rw [List.getElem?_drop, show split l.length + (i - split l.length) = i by omega]; exact hi)
        rw [hlen] at h3
        rw [prove_high H h2 hlow, List.reverse_append, List.reverse_singleton, List.singleton_append, inputs, if_neg (by omega), if_neg hlow, h3, root_two H h2]
        exact ⟨_, _, rfl, by rw [h4]; rfl⟩
    · have h1 : l.length = 1 := by omega
      obtain ⟨e, rfl⟩ := List.length_eq_one_iff.1 h1
      have : i = 0 := by simp at hil; exact hil
      subst this
      cases hi
      rw [prove_one H h2]
      exact ⟨_, [], rfl, (root_one H _).symm⟩
theorem prove_length : ∀ (n : Nat) (l : List D) (i : Nat), l.length = n → (prove H l i).length ≤ l.length := by
  intro n
  induction n using Nat.strongRecOn with
  | _ n ih =>
    intro l i hl
    by_cases h2 : 2 ≤ l.length
    · have hs := split_lt h2
      have hp := split_pos l.length
      by_cases hlow : i < split l.length
      · have := ih (l.take (split l.length)).length (by rw [List.length_take]; omega) _ i rfl
        rw [prove_low H h2 hlow, List.length_append, List.length_singleton]
        rw [List.length_take] at this
        omega
      · have := ih (l.drop (split l.length)).length (by rw [List.length_drop]; omega) _ (i - split l.length) rfl
        rw [prove_high H h2 hlow, List.length_append, List.length_singleton]
        rw [List.length_drop] at this
        omega
    · rw [prove_one H h2]; exact Nat.zero_le _

/-- The prefix proof for the first m elements. -/
def sub (l : List D) (m : Nat) (whole : Bool) : List D :=
  if m = l.length then if whole then [] else [root H l]
  else if _h : 2 ≤ l.length then
    if m ≤ split l.length then sub (l.take (split l.length)) m whole ++ [root H (l.drop (split l.length))]
    else sub (l.drop (split l.length)) (m - split l.length) false ++ [root H (l.take (split l.length))]
  else []
termination_by l.length
decreasing_by
  · rw [List.length_take]; have := split_lt ‹2 ≤ l.length›; omega
  · rw [List.length_drop]; have := split_pos l.length; omega
theorem sub_whole {l : List D} {m : Nat} (h : m = l.length) : sub H l m true = [] := by rw [sub, if_pos h]; rfl
theorem sub_part {l : List D} {m : Nat} (h : m = l.length) : sub H l m false = [root H l] := by rw [sub, if_pos h]; rfl
theorem sub_low {l : List D} {m : Nat} {w : Bool} (h0 : m ≠ l.length) (h : 2 ≤ l.length) (hm : m ≤ split l.length) : sub H l m w = sub H (l.take (split l.length)) m w ++ [root H (l.drop (split l.length))] := by
  rw [sub, if_neg h0, dif_pos h, if_pos hm]
theorem sub_high {l : List D} {m : Nat} {w : Bool} (h0 : m ≠ l.length) (h : 2 ≤ l.length) (hm : ¬ m ≤ split l.length) : sub H l m w = sub H (l.drop (split l.length)) (m - split l.length) false ++ [root H (l.take (split l.length))] := by
  rw [sub, if_neg h0, dif_pos h, if_neg hm]

/-- The pair of a prefix proof that is read from its end, and whether it has the right length; z stands where there is none. -/
def pair (z old : D) : List D → Nat → Nat → Bool → D × D × Bool
  | [], m, n, whole => if m = n ∧ whole = true then (old, old, true) else (z, z, false)
  | x :: r, m, n, whole =>
    if m = n ∧ whole = true then (old, old, false)
    else if m = n then (x, x, r.isEmpty)
    else if m ≤ split n then
      let p := pair z old r m (split n) whole
      (p.1, H.node p.2.1 x, p.2.2)
    else
      let p := pair z old r (m - split n) (n - split n) false
      (H.node x p.1, H.node x p.2.1, p.2.2)
theorem pair_low {z old x : D} {r : List D} {m n : Nat} {w : Bool} (h0 : m ≠ n) (hm : m ≤ split n) : pair H z old (x :: r) m n w = ((pair H z old r m (split n) w).1, H.node (pair H z old r m (split n) w).2.1 x, (pair H z old r m (split n) w).2.2) := by
  rw [pair, if_neg (fun h => h0 h.1), if_neg h0, if_pos hm]
theorem pair_high {z old x : D} {r : List D} {m n : Nat} {w : Bool} (h0 : m ≠ n) (hm : ¬ m ≤ split n) : pair H z old (x :: r) m n w = (H.node x (pair H z old r (m - split n) (n - split n) false).1, H.node x (pair H z old r (m - split n) (n - split n) false).2.1, (pair H z old r (m - split n) (n - split n) false).2.2) := by
  rw [pair, if_neg (fun h => h0 h.1), if_neg h0, if_neg hm]

/-- What is proved of a prefix is accepted. -/
theorem sub_pair (z : D) : ∀ (n : Nat) (l : List D) (m : Nat) (whole : Bool) (old : D), l.length = n → 1 ≤ m → m ≤ l.length → (whole = true → old = root H (l.take m)) →
    pair H z old (sub H l m whole).reverse m l.length whole = (root H (l.take m), root H l, true) := by
  intro n
  induction n using Nat.strongRecOn with
  | _ n ih =>
    intro l m whole old hl h1 hm ho
    by_cases h0 : m = l.length
    · have ht : l.take m = l := List.take_of_length_le (by omega)
      cases whole with
      | true =>
        rw [sub_whole H h0]
        show pair H z old [] m l.length true = _
        rw [pair, if_pos ⟨h0, rfl⟩, ho rfl, ht]
      | false =>
        rw [sub_part H h0, List.reverse_singleton, pair, if_neg (by simp), if_pos h0, ht]
        rfl
    · have h2 : 2 ≤ l.length := by omega
      have hs := split_lt h2
      have hp := split_pos l.length
      by_cases hlow : m ≤ split l.length
      · have hlen : (l.take (split l.length)).length = split l.length := by rw [List.length_take]; omega
        have htt : (l.take (split l.length)).take m = l.take m := by rw [List.take_take, Nat.min_eq_left hlow]
        have h3 := ih (l.take (split l.length)).length (by rw [hlen]; omega) (l.take (split l.length)) m whole old rfl h1 (by rw [hlen]; exact hlow) (by rw [htt]; exact ho)
        rw [hlen, htt] at h3
        rw [sub_low H h0 h2 hlow, List.reverse_append, List.reverse_singleton, List.singleton_append, pair_low H h0 hlow, h3, root_two H h2]
      · have hlen : (l.drop (split l.length)).length = l.length - split l.length := by rw [List.length_drop]
        have h3 := ih (l.drop (split l.length)).length (by rw [hlen]; omega) (l.drop (split l.length)) (m - split l.length) false old rfl (by omega) (by rw [hlen]; omega) (by simp)
        rw [hlen] at h3
        rw [sub_high H h0 h2 hlow, List.reverse_append, List.reverse_singleton, List.singleton_append, pair_high H h0 hlow, h3, root_two H h2]
        have hlm : (l.take m).length = m := by rw [List.length_take]; omega
        have hsm : split (l.take m).length = split l.length := by rw [hlm]; exact split_mid (by omega) hm
        have h2m : 2 ≤ (l.take m).length := by rw [hlm]; omega
        have e : root H (l.take m) = H.node (root H (l.take (split l.length))) (root H ((l.drop (split l.length)).take (m - split l.length))) := by
          rw [root_two H h2m, hsm, List.take_take, Nat.min_eq_left (by omega), List.drop_take]
        rw [e]
end
end Mk
end Go.Proofs.YthpkeaafgabjiaaDoor

/- Merkle trees as mathematics: two proofs for one root, or a proof and a prefix proof, and no two inputs with one digest. No condition but those that are named. -/
namespace Go.Proofs.YthpkeaafgabjiaaDoor
namespace Mk
section
variable {D I : Type} (H : Hasher D I)

/-- Inputs tell what they are made of, for digests that are of the right form. -/
structure Clear (ok : D → Prop) : Prop where
  li : ∀ a b, ok a → ok b → H.li a = H.li b → a = b
  ni : ∀ a b c d, ok a → ok b → ok c → ok d → H.ni a b = H.ni c d → a = c ∧ b = d
  sh : ∀ i, ok (H.sh i)
/-- No two inputs of a list have one digest. -/
def NoClash (l : List I) : Prop := ∀ x ∈ l, ∀ y ∈ l, H.sh x = H.sh y → x = y
theorem NoClash.sub {l m : List I} (h : NoClash H l) (hs : ∀ x ∈ m, x ∈ l) : NoClash H m := fun x hx y hy e => h x (hs x hx) y (hs y hy) e

/-- Two proofs of one length whose inputs are the same are the same. -/
theorem inputs_inj {ok : D → Prop} (hc : Clear H ok) : ∀ (p q : List D) (n i : Nat) (a b : D) (l : List I), ok a → ok b → (∀ x ∈ p, ok x) → (∀ x ∈ q, ok x) →
    inputs H p n i a = some l → inputs H q n i b = some l → a = b ∧ p = q
  | [], q, n, i, a, b, l, ha, hb, _, hq, h1, h2 => by
    have hn : n = 1 := by
      rw [inputs] at h1
      split at h1
      · assumption
      · cases h1
    subst hn
    obtain ⟨_, rfl⟩ := inputs_one H h1
    obtain ⟨rfl, e⟩ := inputs_one H h2
    exact ⟨hc.li a b ha hb (List.cons.inj e).1, rfl⟩
  | x :: p, q, n, i, a, b, l, ha, hb, hp, hq, h1, h2 => by
    have hn : 2 ≤ n := by
      rcases Nat.lt_or_ge n 2 with h | h
      · rw [inputs, if_pos (by omega)] at h1; cases h1
      · exact h
    obtain ⟨y, q, rfl⟩ := inputs_more H hn h2
    have hx := hp x (List.mem_cons_self ..)
    have hy := hq y (List.mem_cons_self ..)
    by_cases hi : i < split n
    · obtain ⟨t, r, h3, rfl⟩ := inputs_low H hn hi h1
      obtain ⟨t2, r2, h4, e⟩ := inputs_low H hn hi h2
      obtain ⟨e1, e2⟩ := List.cons.inj e
      rw [← e2] at h4
      obtain ⟨rfl, rfl⟩ := inputs_inj hc p q (split n) i a b _ ha hb (fun z hz => hp z (List.mem_cons_of_mem _ hz)) (fun z hz => hq z (List.mem_cons_of_mem _ hz)) h3 h4
      obtain ⟨_, rfl⟩ := hc.ni _ _ _ _ (hc.sh _) hx (hc.sh _) hy e1
      exact ⟨rfl, rfl⟩
    · obtain ⟨t, r, h3, rfl⟩ := inputs_high H hn hi h1
      obtain ⟨t2, r2, h4, e⟩ := inputs_high H hn hi h2
      obtain ⟨e1, e2⟩ := List.cons.inj e
      rw [← e2] at h4
      obtain ⟨rfl, rfl⟩ := inputs_inj hc p q (n - split n) (i - split n) a b _ ha hb (fun z hz => hp z (List.mem_cons_of_mem _ hz)) (fun z hz => hq z (List.mem_cons_of_mem _ hz)) h3 h4
      obtain ⟨rfl, _⟩ := hc.ni _ _ _ _ hx (hc.sh _) hy (hc.sh _) e1
      exact ⟨rfl, rfl⟩

/-- The inputs of two proofs have one length; behind the first difference from the root on, the digests are the same. -/
theorem inputs_length : ∀ (p : List D) (n i : Nat) (a : D) (l : List I), inputs H p n i a = some l → l.length = p.length + 1
  | [], n, i, a, l, h => by
    rw [inputs] at h
    split at h
    · cases h; rfl
    · cases h
  | x :: p, n, i, a, l, h => by
    have hn : 2 ≤ n := by
      rcases Nat.lt_or_ge n 2 with h2 | h2
      · rw [inputs, if_pos (by omega)] at h; cases h
      · exact h2
    by_cases hi : i < split n
    · obtain ⟨t, r, h3, rfl⟩ := inputs_low H hn hi h
      have := inputs_length p _ _ _ _ h3
      simp at this ⊢; omega
    · obtain ⟨t, r, h3, rfl⟩ := inputs_high H hn hi h
      have := inputs_length p _ _ _ _ h3
      simp at this ⊢; omega
theorem inputs_size : ∀ (p q : List D) (n i : Nat) (a b : D) (l m : List I), inputs H p n i a = some l → inputs H q n i b = some m → p.length = q.length
  | [], q, n, i, a, b, l, m, h1, h2 => by
    have hn : n = 1 := by
      rw [inputs] at h1
      split at h1
      · assumption
      · cases h1
    subst hn
    obtain ⟨rfl, _⟩ := inputs_one H h2
    rfl
  | x :: p, q, n, i, a, b, l, m, h1, h2 => by
    have hn : 2 ≤ n := by
      rcases Nat.lt_or_ge n 2 with h | h
      · rw [inputs, if_pos (by omega)] at h1; cases h1
      · exact h
    obtain ⟨y, q, rfl⟩ := inputs_more H hn h2
    by_cases hi : i < split n
    · obtain ⟨t, r, h3, rfl⟩ := inputs_low H hn hi h1
      obtain ⟨t2, r2, h4, rfl⟩ := inputs_low H hn hi h2
      simp [inputs_size p q _ _ _ _ _ _ h3 h4]
    · obtain ⟨t, r, h3, rfl⟩ := inputs_high H hn hi h1
      obtain ⟨t2, r2, h4, rfl⟩ := inputs_high H hn hi h2
      simp [inputs_size p q _ _ _ _ _ _ h3 h4]

/-- The first place from the root on at which two lists of inputs differ. -/
def firstDiff [DecidableEq I] : List I → List I → Option (I × I)
  | x :: l, y :: m => if x = y then firstDiff l m else some (x, y)
  | _, _ => none
theorem firstDiff_none [DecidableEq I] : ∀ (l m : List I), l.length = m.length → firstDiff l m = none → l = m
  | [], [], _, _ => rfl
  | x :: l, y :: m, h, e => by
    rw [firstDiff] at e
    split at e
    · rename_i hxy
      rw [hxy, firstDiff_none l m (by simpa using h) e]
    · cases e
theorem firstDiff_some [DecidableEq I] : ∀ (l m : List I) (u v : I), firstDiff l m = some (u, v) → u ≠ v
  | x :: l, y :: m, u, v, e => by
    rw [firstDiff] at e
    split at e
    · exact firstDiff_some l m u v e
    · rename_i h
      cases e; exact h
/-- What differs first leads to one digest. -/
theorem firstDiff_sh [DecidableEq I] {ok : D → Prop} (hc : Clear H ok) : ∀ (p q : List D) (n i : Nat) (a b : D) (t s : I) (l m : List I) (u v : I), (∀ x ∈ p, ok x) → (∀ x ∈ q, ok x) →
    inputs H p n i a = some (t :: l) → inputs H q n i b = some (s :: m) → H.sh t = H.sh s → firstDiff (t :: l) (s :: m) = some (u, v) → H.sh u = H.sh v
  | [], q, n, i, a, b, t, s, l, m, u, v, _, _, h1, h2, h3, h4 => by
    have hn : n = 1 := by
      rw [inputs] at h1
      split at h1
      · assumption
      · cases h1
    subst hn
    obtain ⟨_, e1⟩ := inputs_one H h1
    obtain ⟨_, e2⟩ := inputs_one H h2
    cases e1
    cases e2
    rw [firstDiff] at h4
    split at h4
    · simp [firstDiff] at h4
    · cases h4; exact h3
  | x :: p, q, n, i, a, b, t, s, l, m, u, v, hp, hq, h1, h2, h3, h4 => by
    have hn : 2 ≤ n := by
      rcases Nat.lt_or_ge n 2 with h | h
      · rw [inputs, if_pos (by omega)] at h1; cases h1
      · exact h
    obtain ⟨y, q, rfl⟩ := inputs_more H hn h2
    have hx := hp x (List.mem_cons_self ..)
    have hy := hq y (List.mem_cons_self ..)
    have hp2 : ∀ z ∈ p, ok z := fun z hz => hp z (List.mem_cons_of_mem _ hz)
    have hq2 : ∀ z ∈ q, ok z := fun z hz => hq z (List.mem_cons_of_mem _ hz)
    rw [firstDiff] at h4
    by_cases hi : i < split n
    · obtain ⟨t1, r1, h5, e1⟩ := inputs_low H hn hi h1
      obtain ⟨t2, r2, h6, e2⟩ := inputs_low H hn hi h2
      cases e1
      cases e2
      split at h4
      · rename_i e
        obtain ⟨e1, _⟩ := hc.ni _ _ _ _ (hc.sh _) hx (hc.sh _) hy e
        exact firstDiff_sh hc p q _ _ a b t1 t2 r1 r2 u v hp2 hq2 h5 h6 e1 h4
      · cases h4; exact h3
    · obtain ⟨t1, r1, h5, e1⟩ := inputs_high H hn hi h1
      obtain ⟨t2, r2, h6, e2⟩ := inputs_high H hn hi h2
      cases e1
      cases e2
      split at h4
      · rename_i e
        obtain ⟨_, e1⟩ := hc.ni _ _ _ _ hx (hc.sh _) hy (hc.sh _) e
        exact firstDiff_sh hc p q _ _ a b t1 t2 r1 r2 u v hp2 hq2 h5 h6 e1 h4
      · cases h4; exact h3
/-- One root, and no clash: one element. -/
theorem same_root {ok : D → Prop} (hc : Clear H ok) : ∀ (p q : List D) (n i : Nat) (a b : D) (t s : I) (l m : List I), ok a → ok b → (∀ x ∈ p, ok x) → (∀ x ∈ q, ok x) →
    inputs H p n i a = some (t :: l) → inputs H q n i b = some (s :: m) → H.sh t = H.sh s → NoClash H ((t :: l) ++ (s :: m)) → a = b
  | [], q, n, i, a, b, t, s, l, m, ha, hb, _, _, h1, h2, h3, hx => by
    have hn : n = 1 := by
      rw [inputs] at h1
      split at h1
      · assumption
      · cases h1
    subst hn
    obtain ⟨_, e1⟩ := inputs_one H h1
    obtain ⟨_, e2⟩ := inputs_one H h2
    have e := hx t (by simp) s (by simp) h3
    cases e1
    cases e2
    exact hc.li a b ha hb e
  | x :: p, q, n, i, a, b, t, s, l, m, ha, hb, hp, hq, h1, h2, h3, hnc => by
    have hn : 2 ≤ n := by
      rcases Nat.lt_or_ge n 2 with h | h
      · rw [inputs, if_pos (by omega)] at h1; cases h1
      · exact h
    obtain ⟨y, q, rfl⟩ := inputs_more H hn h2
    have hx := hp x (List.mem_cons_self ..)
    have hy := hq y (List.mem_cons_self ..)
    have hp2 : ∀ z ∈ p, ok z := fun z hz => hp z (List.mem_cons_of_mem _ hz)
    have hq2 : ∀ z ∈ q, ok z := fun z hz => hq z (List.mem_cons_of_mem _ hz)
    have e := hnc t (by simp) s (by simp) h3
    by_cases hi : i < split n
    · obtain ⟨t1, r1, h5, e1⟩ := inputs_low H hn hi h1
      obtain ⟨t2, r2, h6, e2⟩ := inputs_low H hn hi h2
      cases e1
      cases e2
      obtain ⟨e1, _⟩ := hc.ni _ _ _ _ (hc.sh _) hx (hc.sh _) hy e
      exact same_root hc p q _ _ a b t1 t2 r1 r2 ha hb hp2 hq2 h5 h6 e1 (hnc.sub H (by intro z hz; simp at hz ⊢; grind))
    · obtain ⟨t1, r1, h5, e1⟩ := inputs_high H hn hi h1
      obtain ⟨t2, r2, h6, e2⟩ := inputs_high H hn hi h2
      cases e1
      cases e2
      obtain ⟨_, e1⟩ := hc.ni _ _ _ _ hx (hc.sh _) hy (hc.sh _) e
      exact same_root hc p q _ _ a b t1 t2 r1 r2 ha hb hp2 hq2 h5 h6 e1 (hnc.sub H (by intro z hz; simp at hz ⊢; grind))

/-- The hash inputs of the computation of a pair, and the pair; a proof is read from its end. -/
def preInputs (old : D) : List D → Nat → Nat → Bool → List I × D × D
  | [], _, _, _ => ([], old, old)
  | x :: r, m, n, whole =>
    if m = n ∧ whole = true then ([], old, old)
    else if m = n then ([], x, x)
    else if m ≤ split n then
      let p := preInputs old r m (split n) whole
      (p.1 ++ [H.ni p.2.2 x], p.2.1, H.sh (H.ni p.2.2 x))
    else
      let p := preInputs old r (m - split n) (n - split n) false
      (p.1 ++ [H.ni x p.2.1, H.ni x p.2.2], H.sh (H.ni x p.2.1), H.sh (H.ni x p.2.2))
theorem preInputs_pair (z old : D) : ∀ (r : List D) (m n : Nat) (whole : Bool), (pair H z old r m n whole).2.2 = true → (preInputs H old r m n whole).2 = ((pair H z old r m n whole).1, (pair H z old r m n whole).2.1)
  | [], m, n, whole, h => by
    rw [pair] at h ⊢
    split at h
    · rename_i hw
      rw [if_pos hw]; rfl
    · cases h
  | x :: r, m, n, whole, h => by
    rw [pair] at h ⊢
    rw [preInputs]
    split at h
    · cases h
    · rename_i hw
      rw [if_neg hw, if_neg hw]
      split at h
      · rename_i hm
        rw [if_pos hm, if_pos hm]
      · rename_i hm
        rw [if_neg hm, if_neg hm]
        split at h
        · rename_i hk
          rw [if_pos hk, if_pos hk]
          have ih := preInputs_pair z old r m (split n) whole h
          simp only [ih]
          rfl
        · rename_i hk
          rw [if_neg hk, if_neg hk]
          have ih := preInputs_pair z old r (m - split n) (n - split n) false h
          simp only [ih]
          rfl

theorem pair_ok {ok : D → Prop} (hc : Clear H ok) (z old : D) (hz : ok z) (ho : ok old) : ∀ (r : List D) (m n : Nat) (whole : Bool), (∀ x ∈ r, ok x) → ok (pair H z old r m n whole).1 ∧ ok (pair H z old r m n whole).2.1
  | [], m, n, whole, _ => by
    rw [pair]
    split
    · exact ⟨ho, ho⟩
    · exact ⟨hz, hz⟩
  | x :: r, m, n, whole, h => by
    have hx := h x (List.mem_cons_self ..)
    have hr : ∀ y ∈ r, ok y := fun y hy => h y (List.mem_cons_of_mem _ hy)
    rw [pair]
    split
    · exact ⟨ho, ho⟩
    · split
      · exact ⟨hx, hx⟩
      · split
        · exact ⟨(pair_ok hc z old hz ho r _ _ _ hr).1, hc.sh _⟩
        · exact ⟨hc.sh _, hc.sh _⟩
/-- A history that was shown can't be changed. -/
theorem history {ok : D → Prop} (hc : Clear H ok) (z old : D) (hz : ok z) : ∀ (r p q : List D) (m n i : Nat) (whole : Bool) (a b : D) (t s : I) (l k : List I),
    ok a → ok b → ok old → (∀ x ∈ r, ok x) → (∀ x ∈ p, ok x) → (∀ x ∈ q, ok x) → i < m → m ≤ n →
    inputs H p m i a = some (t :: l) → inputs H q n i b = some (s :: k) →
    (pair H z old r m n whole).2.2 = true → H.sh t = (pair H z old r m n whole).1 → H.sh s = (pair H z old r m n whole).2.1 →
    NoClash H ((t :: l) ++ (s :: k) ++ (preInputs H old r m n whole).1) → a = b := by
  intro r
  induction r with
  | nil =>
    intro p q m n i whole a b t s l k ha hb ho hr hp hq him hmn h1 h2 h3 h4 h5 hnc
    rw [pair] at h3 h4 h5
    split at h3
    · rename_i hw
      rw [if_pos hw] at h4 h5
      obtain ⟨rfl, _⟩ := hw
      exact same_root H hc p q m i a b t s l k ha hb hp hq h1 h2 (h4.trans h5.symm) (hnc.sub H (by intro x hx; simp at hx ⊢; grind))
    · cases h3
  | cons e r ih =>
    intro p q m n i whole a b t s l k ha hb ho hr hp hq him hmn h1 h2 h3 h4 h5 hnc
    have he := hr e (List.mem_cons_self ..)
    have hr2 : ∀ x ∈ r, ok x := fun x hx => hr x (List.mem_cons_of_mem _ hx)
    by_cases hw : m = n ∧ whole = true
    · rw [pair, if_pos hw] at h3; cases h3
    by_cases hmn2 : m = n
    · subst hmn2
      rw [pair, if_neg hw, if_pos rfl] at h4 h5
      exact same_root H hc p q m i a b t s l k ha hb hp hq h1 h2 (h4.trans h5.symm) (hnc.sub H (by intro x hx; simp at hx ⊢; grind))
    have hn2 : 2 ≤ n := by omega
    by_cases hk : m ≤ split n
    · rw [pair_low H hmn2 hk] at h3 h4 h5
      have hpi := preInputs_pair H z old r m (split n) whole h3
      have hpre : (preInputs H old (e :: r) m n whole).1 = (preInputs H old r m (split n) whole).1 ++ [H.ni (preInputs H old r m (split n) whole).2.2 e] := by
        rw [preInputs, if_neg hw, if_neg hmn2, if_pos hk]
      rw [hpre, hpi] at hnc
      obtain ⟨y, q, rfl⟩ := inputs_more H hn2 h2
      have hil : i < split n := by omega
      obtain ⟨t2, r2, h6, e2⟩ := inputs_low H hn2 hil h2
      cases e2
      have hy := hq y (List.mem_cons_self ..)
      have heq := hnc (H.ni (H.sh t2) y) (by simp) (H.ni (pair H z old r m (split n) whole).2.1 e) (by simp) h5
      have hok := (pair_ok H hc z old hz ho r m (split n) whole hr2).2
      obtain ⟨e3, _⟩ := hc.ni _ _ _ _ (hc.sh _) hy hok he heq
      exact ih p q m (split n) i whole a b t t2 l r2 ha hb ho hr2 hp (fun x hx => hq x (List.mem_cons_of_mem _ hx)) him hk h1 h6 h3 h4 e3 (hnc.sub H (by intro x hx; simp at hx ⊢; grind))
    · rw [pair_high H hmn2 hk] at h3 h4 h5
      have hpi := preInputs_pair H z old r (m - split n) (n - split n) false h3
      have hpre : (preInputs H old (e :: r) m n whole).1 = (preInputs H old r (m - split n) (n - split n) false).1 ++ [H.ni e (preInputs H old r (m - split n) (n - split n) false).2.1, H.ni e (preInputs H old r (m - split n) (n - split n) false).2.2] := by
        rw [preInputs, if_neg hw, if_neg hmn2, if_neg hk]
      rw [hpre, hpi] at hnc
      have hok := pair_ok H hc z old hz ho r (m - split n) (n - split n) false hr2
      have hsm : split m = split n := split_mid (by omega) hmn
      have hm2 : 2 ≤ m := by have := split_pos n; omega
      obtain ⟨y, q, rfl⟩ := inputs_more H hn2 h2
      obtain ⟨x, p, rfl⟩ := inputs_more H hm2 h1
      have hy := hq y (List.mem_cons_self ..)
      have hx := hp x (List.mem_cons_self ..)
      have hp2 : ∀ z ∈ p, ok z := fun z hz => hp z (List.mem_cons_of_mem _ hz)
      have hq2 : ∀ z ∈ q, ok z := fun z hz => hq z (List.mem_cons_of_mem _ hz)
      by_cases hi : i < split n
      · obtain ⟨t1, r1, h6, e1⟩ := inputs_low H hm2 (by rw [hsm]; exact hi) h1
        obtain ⟨t2, r2, h7, e2⟩ := inputs_low H hn2 hi h2
        cases e1
        cases e2
        have heq1 := hnc (H.ni (H.sh t1) x) (by simp) (H.ni e (pair H z old r (m - split n) (n - split n) false).1) (by simp) h4
        have heq2 := hnc (H.ni (H.sh t2) y) (by simp) (H.ni e (pair H z old r (m - split n) (n - split n) false).2.1) (by simp) h5
        obtain ⟨e3, _⟩ := hc.ni _ _ _ _ (hc.sh _) hx he hok.1 heq1
        obtain ⟨e4, _⟩ := hc.ni _ _ _ _ (hc.sh _) hy he hok.2 heq2
        rw [hsm] at h6
        exact same_root H hc p q (split n) i a b t1 t2 r1 r2 ha hb hp2 hq2 h6 h7 (e3.trans e4.symm) (hnc.sub H (by intro x hx; simp at hx ⊢; grind))
      · obtain ⟨t1, r1, h6, e1⟩ := inputs_high H hm2 (by rw [hsm]; exact hi) h1
        obtain ⟨t2, r2, h7, e2⟩ := inputs_high H hn2 hi h2
        cases e1
        cases e2
        have heq1 := hnc (H.ni x (H.sh t1)) (by simp) (H.ni e (pair H z old r (m - split n) (n - split n) false).1) (by simp) h4
        have heq2 := hnc (H.ni y (H.sh t2)) (by simp) (H.ni e (pair H z old r (m - split n) (n - split n) false).2.1) (by simp) h5
        obtain ⟨_, e3⟩ := hc.ni _ _ _ _ hx (hc.sh _) he hok.1 heq1
        obtain ⟨_, e4⟩ := hc.ni _ _ _ _ hy (hc.sh _) he hok.2 heq2
        rw [hsm] at h6
        exact ih p q (m - split n) (n - split n) (i - split n) false a b t1 t2 r1 r2 ha hb ho hr2 hp2 hq2 (by omega) (by omega) h6 h7 h3 e3 e4 (hnc.sub H (by intro x hx; simp at hx ⊢; grind))
end
end Mk
end Go.Proofs.YthpkeaafgabjiaaDoor

/- Merkle trees as mathematics: peaks, how they grow, what they lead to. No condition but those that are named. -/
namespace Go.Proofs.YthpkeaafgabjiaaDoor
namespace Mk
/-- How many ones a number has. -/
def ones (n : Nat) : Nat := if n = 0 then 0 else n % 2 + ones (n / 2)
termination_by n
decreasing_by omega
theorem ones_zero : ones 0 = 0 := by rw [ones]; simp
theorem ones_step {n : Nat} (h : n ≠ 0) : ones n = n % 2 + ones (n / 2) := by rw [ones, if_neg h]
theorem ones_half (n : Nat) : ones n = n % 2 + ones (n / 2) := by
  by_cases h : n = 0
  · subst h; simp [ones_zero]
  · exact ones_step h
theorem ones_pow : ∀ (j m : Nat), m < 2 ^ j → ones (2 ^ j + m) = 1 + ones m
  | 0, m, h => by
    have : m = 0 := by simpa using h
    subst this
    rw [ones_half, ones_zero]
  | j + 1, m, h => by
    rw [Nat.pow_succ] at h ⊢
    rw [ones_half, ones_half m, show (2 ^ j * 2 + m) / 2 = 2 ^ j + m / 2 by omega, show (2 ^ j * 2 + m) % 2 = m % 2 by omega, ones_pow j (m / 2) (by omega)]
    omega
theorem ones_le (n : Nat) : ones n ≤ n := by
  induction n using Nat.strongRecOn with
  | _ n ih =>
    by_cases h : n = 0
    · subst h; simp [ones_zero]
    · rw [ones_step h]
      have := ih (n / 2) (by omega)
      omega
/-- The greatest power of 2 that is at most n, for n of at least 1. -/
def gp (n : Nat) : Nat := 2 ^ n.log2
theorem gp_le {n : Nat} (h : n ≠ 0) : gp n ≤ n := Nat.log2_self_le h
theorem gp_gt (n : Nat) : n < 2 * gp n := by
  have := Nat.lt_log2_self (n := n)
  unfold gp
  rw [Nat.pow_succ] at this
  omega
theorem gp_pos (n : Nat) : 1 ≤ gp n := Nat.one_le_two_pow
theorem gp_eq {n j : Nat} (h1 : 2 ^ j ≤ n) (h2 : n < 2 * 2 ^ j) : gp n = 2 ^ j := by
  have h0 : n ≠ 0 := by have := Nat.one_le_two_pow (n := j); omega
  unfold gp
  congr 1
  exact (Nat.log2_eq_iff h0).2 ⟨h1, by rw [Nat.pow_succ]; omega⟩

section
variable {D I : Type} (H : Hasher D I)
/-- The peaks of a list. -/
def pk (l : List D) : List D :=
  if _h : l.length ≠ 0 then root H (l.take (gp l.length)) :: pk (l.drop (gp l.length)) else []
termination_by l.length
decreasing_by rw [List.length_drop]; have := gp_pos l.length; omega
theorem pk_nil : pk H [] = [] := by rw [pk]; simp
theorem pk_cons {l : List D} (h : l.length ≠ 0) : pk H l = root H (l.take (gp l.length)) :: pk H (l.drop (gp l.length)) := by rw [pk, dif_pos h]
theorem pk_append {a b : List D} {j : Nat} (ha : a.length = 2 ^ j) (hb : b.length < 2 ^ j) : pk H (a ++ b) = root H a :: pk H b := by
  have hp := Nat.one_le_two_pow (n := j)
  have hl : (a ++ b).length = a.length + b.length := by simp
  have hg : gp (a ++ b).length = a.length := by rw [hl, ha]; exact gp_eq (by omega) (by omega)
  rw [pk_cons H (by rw [hl]; omega), hg, List.take_left, List.drop_left]
theorem pk_length : ∀ (n : Nat) (l : List D), l.length = n → (pk H l).length = ones l.length := by
  intro n
  induction n using Nat.strongRecOn with
  | _ n ih =>
    intro l hl
    by_cases h : l.length = 0
    · obtain rfl := List.eq_nil_of_length_eq_zero h
      rw [pk_nil]; simp [ones_zero]
    · have h1 := gp_le h
      have h2 := gp_gt l.length
      have h3 := gp_pos l.length
      have hd : (l.drop (gp l.length)).length = l.length - gp l.length := List.length_drop
      have := ih (l.drop (gp l.length)).length (by rw [hd]; omega) _ rfl
      rw [pk_cons H h, List.length_cons, this, hd]
      have h4 : ones l.length = 1 + ones (l.length - gp l.length) := by
        have h5 := ones_pow l.length.log2 (l.length - gp l.length) (by show _ < gp l.length; omega)
        rw [show 2 ^ l.length.log2 + (l.length - gp l.length) = l.length by show gp l.length + _ = _; omega] at h5
        exact h5
      omega
/-- One element more: the peaks are read from the last one on. -/
def addUp : List D → Nat → D → List D × D
  | [], _, last => ([], last)
  | x :: r, n, last => if n % 2 = 1 then addUp r (n / 2) (H.node x last) else (x :: r, last)
theorem addUp_even {r : List D} {n : Nat} {last : D} (h : n % 2 = 0) : addUp H r n last = (r, last) := by
  cases r with
  | nil => rfl
  | cons x r => rw [addUp, if_neg (by omega)]
theorem addUp_odd {x : D} {r : List D} {n : Nat} {last : D} (h : n % 2 = 1) : addUp H (x :: r) n last = addUp H r (n / 2) (H.node x last) := by rw [addUp, if_pos h]
theorem addUp_far (ra : D) : ∀ (j m : Nat) (r : List D) (last : D), m < 2 ^ j → r.length = ones m →
    addUp H (r ++ [ra]) (2 ^ j + m) last = if m + 1 = 2 ^ j then ([], H.node ra (addUp H r m last).2) else ((addUp H r m last).1 ++ [ra], (addUp H r m last).2)
  | 0, m, r, last, h, hr => by
    have : m = 0 := by simpa using h
    subst this
    rw [ones_zero] at hr
    obtain rfl := List.eq_nil_of_length_eq_zero hr
    rfl
  | j + 1, m, r, last, h, hr => by
    rw [Nat.pow_succ] at h ⊢
    by_cases hm : m % 2 = 0
    · rw [addUp_even H (by omega), addUp_even H hm, if_neg (by omega)]
    · have h0 : m ≠ 0 := by omega
      rw [ones_step h0] at hr
      obtain ⟨x, r, rfl⟩ : ∃ x q, r = x :: q := by
        cases r with
        | nil => simp at hr; omega
        | cons x q => exact ⟨x, q, rfl⟩
      have ih := addUp_far ra j (m / 2) r (H.node x last) (by omega) (by simp at hr; omega)
      have hm1 : m % 2 = 1 := by omega
      have e1 : (2 ^ j * 2 + m) / 2 = 2 ^ j + m / 2 := by omega
      rw [List.cons_append, addUp_odd H (n := 2 ^ j * 2 + m) (by omega), addUp_odd H hm1, e1, ih]
      by_cases he : m + 1 = 2 ^ j * 2
      · rw [if_pos he, if_pos (by omega)]
      · rw [if_neg he, if_neg (by omega)]
/-- The peaks behind an element more. -/
def added (rs : List D) (n : Nat) (d : D) : List D := (addUp H rs.reverse n (H.leaf d)).1.reverse ++ [(addUp H rs.reverse n (H.leaf d)).2]
theorem added_pk : ∀ (n : Nat) (l : List D) (d : D), l.length = n → added H (pk H l) l.length d = pk H (l ++ [d]) := by
  intro n
  induction n using Nat.strongRecOn with
  | _ n ih =>
    intro l d hl
    by_cases h : l.length = 0
    · obtain rfl := List.eq_nil_of_length_eq_zero h
      unfold added
      rw [pk_nil, List.reverse_nil]
      have e := pk_append H (a := [d]) (b := []) (j := 0) rfl (by simp)
      rw [List.append_nil, pk_nil, root_one] at e
      rw [List.nil_append, e]
      rfl
    · have h1 := gp_le h
      have h2 := gp_gt l.length
      have h3 := gp_pos l.length
      obtain ⟨a, ha⟩ : ∃ a, a = l.take (gp l.length) := ⟨_, rfl⟩
      obtain ⟨b, hb⟩ : ∃ b, b = l.drop (gp l.length) := ⟨_, rfl⟩
      have hla : a.length = gp l.length := by rw [ha, List.length_take]; omega
      have hlb : b.length = l.length - gp l.length := by rw [hb, List.length_drop]
      have hab : l = a ++ b := by rw [ha, hb, List.take_append_drop]
      have hpk : pk H l = root H a :: pk H b := by rw [ha, hb]; exact pk_cons H h
      have ihb := ih b.length (by omega) b d rfl
      have hfar := addUp_far H (root H a) l.length.log2 b.length (pk H b).reverse (H.leaf d) (by show _ < gp l.length; omega) (by rw [List.length_reverse]; exact pk_length H _ b rfl)
      have hn : 2 ^ l.length.log2 + b.length = l.length := by show gp l.length + _ = _; omega
      rw [hn] at hfar
      unfold added at ihb ⊢
      rw [hpk, List.reverse_cons, hfar]
      have hassoc : l ++ [d] = a ++ (b ++ [d]) := by rw [hab, List.append_assoc]
      by_cases he : b.length + 1 = 2 ^ l.length.log2
      · have he2 : b.length + 1 = gp l.length := he
        rw [if_pos he]
        have hbd : (b ++ [d]).length = 2 ^ l.length.log2 := by rw [List.length_append]; exact he
        have e1 := pk_append H (a := b ++ [d]) (b := []) hbd (by simp; exact Nat.one_le_two_pow)
        rw [List.append_nil, pk_nil] at e1
        rw [e1] at ihb
        have hk1 : (addUp H (pk H b).reverse b.length (H.leaf d)).1.reverse = [] := by
          have := congrArg List.length ihb
          simp at this
          simpa using this
        rw [hk1, List.nil_append] at ihb
        have e2 : (addUp H (pk H b).reverse b.length (H.leaf d)).2 = root H (b ++ [d]) := List.cons.inj ihb |>.1
        have hlen : (l ++ [d]).length = 2 ^ (l.length.log2 + 1) := by
          rw [Nat.pow_succ, List.length_append, List.length_singleton]
          omega
        have e3 := pk_append H (a := l ++ [d]) (b := []) hlen (by simp; exact Nat.one_le_two_pow)
        rw [List.append_nil, pk_nil] at e3
        have hb2 : (b ++ [d]).length = a.length := by rw [hbd, hla]; rfl
        have e4 := root_append H (a := a) (b := b ++ [d]) (by
          rw [hb2]
          exact ⟨⟨l.length.log2, by rw [hla]; rfl⟩, by omega, by omega⟩)
        rw [e3, e2, hassoc, e4]
        rfl
      · have he2 : ¬ b.length + 1 = gp l.length := he
        rw [if_neg he]
        rw [hassoc, pk_append H (j := l.length.log2) (by rw [hla]; rfl) (by rw [List.length_append, List.length_singleton]; show _ < gp l.length; omega), ← ihb]
        simp
/-- What peaks lead to; they are read from the last one on. -/
def topOf : List D → D
  | [] => H.nil
  | x :: r => r.foldl (fun v y => H.node y v) x
theorem topOf_snoc {r : List D} (h : r ≠ []) (a : D) : topOf H (r ++ [a]) = H.node a (topOf H r) := by
  cases r with
  | nil => exact absurd rfl h
  | cons x r => simp [topOf, List.foldl_append]
theorem topOf_pk : ∀ (n : Nat) (l : List D), l.length = n → topOf H (pk H l).reverse = root H l := by
  intro n
  induction n using Nat.strongRecOn with
  | _ n ih =>
    intro l hl
    by_cases h : l.length = 0
    · obtain rfl := List.eq_nil_of_length_eq_zero h
      rw [pk_nil, root_nil]; rfl
    · have h1 := gp_le h
      have h2 := gp_gt l.length
      have h3 := gp_pos l.length
      have hlb : (l.drop (gp l.length)).length = l.length - gp l.length := List.length_drop
      have hla : (l.take (gp l.length)).length = gp l.length := by rw [List.length_take]; omega
      rw [pk_cons H h, List.reverse_cons]
      by_cases hb : (l.drop (gp l.length)).length = 0
      · have hb2 := List.eq_nil_of_length_eq_zero hb
        rw [hb2, pk_nil]
        have : l.take (gp l.length) = l := List.take_of_length_le (by omega)
        rw [this]
        rfl
      · have hne : (pk H (l.drop (gp l.length))).reverse ≠ [] := by
          rw [pk_cons H hb]; simp
        rw [topOf_snoc H hne, ih _ (by rw [hlb]; omega) _ rfl]
        have e := root_append H (a := l.take (gp l.length)) (b := l.drop (gp l.length)) (by
          rw [hla, hlb]
          exact ⟨⟨_, rfl⟩, by omega, by omega⟩)
        rw [List.take_append_drop] at e
        exact e.symm
end
end Mk
end Go.Proofs.YthpkeaafgabjiaaDoor

/- Merkle trees as mathematics: the parts of a list by their ends, proofs by parts. No condition but those that are named. -/
namespace Go.Proofs.YthpkeaafgabjiaaDoor
namespace Mk

theorem split_half {n j : Nat} (h : 2 ≤ n) (hj : n ≤ 2 ^ (j + 1)) : split n ≤ 2 ^ j := by
  obtain ⟨⟨i, e⟩, h1, _⟩ := split_is h
  rw [e] at h1 ⊢
  have h2 : i ≤ j := by
    have : 2 ^ i < 2 ^ (j + 1) := by omega
    exact Nat.lt_succ_iff.1 ((Nat.pow_lt_pow_iff_right (by omega)).1 this)
  exact Nat.pow_le_pow_right (by omega) h2

/-- The siblings of a path, as parts. -/
def sibs (lo hi i : Nat) : List (Nat × Nat) :=
  if _h : 2 ≤ hi - lo then
    if i < lo + split (hi - lo) then sibs lo (lo + split (hi - lo)) i ++ [(lo + split (hi - lo), hi)]
    else sibs (lo + split (hi - lo)) hi i ++ [(lo, lo + split (hi - lo))]
  else []
termination_by hi - lo
decreasing_by
  · have := split_lt ‹2 ≤ hi - lo›; omega
  · have := split_pos (hi - lo); omega
theorem sibs_low {lo hi i : Nat} (h : 2 ≤ hi - lo) (hi' : i < lo + split (hi - lo)) : sibs lo hi i = sibs lo (lo + split (hi - lo)) i ++ [(lo + split (hi - lo), hi)] := by
  rw [sibs, dif_pos h, if_pos hi']
theorem sibs_high {lo hi i : Nat} (h : 2 ≤ hi - lo) (hi' : ¬ i < lo + split (hi - lo)) : sibs lo hi i = sibs (lo + split (hi - lo)) hi i ++ [(lo, lo + split (hi - lo))] := by
  rw [sibs, dif_pos h, if_neg hi']
theorem sibs_one {lo hi i : Nat} (h : ¬ 2 ≤ hi - lo) : sibs lo hi i = [] := by rw [sibs, dif_neg h]
theorem sibs_length : ∀ (j lo hi i : Nat), hi - lo ≤ 2 ^ j → (sibs lo hi i).length ≤ j
  | 0, lo, hi, i, h => by rw [sibs_one (by simp at h; omega)]; exact Nat.zero_le _
  | j + 1, lo, hi, i, h => by
    by_cases h2 : 2 ≤ hi - lo
    · have h3 := split_half h2 h
      have h4 := split_ge h2
      by_cases h5 : i < lo + split (hi - lo)
      · rw [sibs_low h2 h5, List.length_append, List.length_singleton]
        have := sibs_length j lo (lo + split (hi - lo)) i (by omega)
        omega
      · rw [sibs_high h2 h5, List.length_append, List.length_singleton]
        have := sibs_length j (lo + split (hi - lo)) hi i (by omega)
        omega
    · rw [sibs_one h2]; exact Nat.zero_le _
/-- Parts between two ends. -/
def Within (lo hi : Nat) (l : List (Nat × Nat)) : Prop := ∀ p ∈ l, lo ≤ p.1 ∧ p.1 < p.2 ∧ p.2 ≤ hi
theorem Within.more {lo hi lo' hi' : Nat} {l : List (Nat × Nat)} (h : Within lo hi l) (h1 : lo' ≤ lo) (h2 : hi ≤ hi') : Within lo' hi' l := fun p hp => by
  have := h p hp; omega
theorem Within.snoc {lo hi a b : Nat} {l : List (Nat × Nat)} (h : Within lo hi l) (h1 : lo ≤ a) (h2 : a < b) (h3 : b ≤ hi) : Within lo hi (l ++ [(a, b)]) := fun p hp => by
  rcases List.mem_append.1 hp with hp | hp
  · exact h p hp
  · rw [List.mem_singleton.1 hp]; exact ⟨h1, h2, h3⟩
theorem within_nil (lo hi : Nat) : Within lo hi [] := fun p hp => by cases hp
theorem sibs_within : ∀ (n lo hi i : Nat), hi - lo = n → Within lo hi (sibs lo hi i) := by
  intro n
  induction n using Nat.strongRecOn with
  | _ n ih =>
    intro lo hi i hn
    by_cases h2 : 2 ≤ hi - lo
    · have hs := split_lt h2
      have hp := split_pos (hi - lo)
      by_cases h5 : i < lo + split (hi - lo)
      · rw [sibs_low h2 h5]
        exact ((ih _ (by omega) lo (lo + split (hi - lo)) i rfl).more (Nat.le_refl _) (by omega)).snoc (by omega) (by omega) (Nat.le_refl _)
      · rw [sibs_high h2 h5]
        exact ((ih _ (by omega) (lo + split (hi - lo)) hi i rfl).more (by omega) (Nat.le_refl _)).snoc (Nat.le_refl _) (by omega) (by omega)
    · rw [sibs_one h2]; exact within_nil _ _

/-- The parts of a prefix proof. -/
def grow (lo hi m : Nat) : List (Nat × Nat) :=
  if hi = m then (if lo = 0 then [] else [(lo, hi)])
  else if _h : 2 ≤ hi - lo then
    if m ≤ lo + split (hi - lo) then grow lo (lo + split (hi - lo)) m ++ [(lo + split (hi - lo), hi)]
    else grow (lo + split (hi - lo)) hi m ++ [(lo, lo + split (hi - lo))]
  else []
termination_by hi - lo
decreasing_by
  · have := split_lt ‹2 ≤ hi - lo›; omega
  · have := split_pos (hi - lo); omega
theorem grow_whole (hi : Nat) : grow 0 hi hi = [] := by rw [grow, if_pos rfl, if_pos rfl]
theorem grow_part {lo : Nat} (h : lo ≠ 0) (hi : Nat) : grow lo hi hi = [(lo, hi)] := by rw [grow, if_pos rfl, if_neg h]
theorem grow_low {lo hi m : Nat} (h0 : hi ≠ m) (h : 2 ≤ hi - lo) (hm : m ≤ lo + split (hi - lo)) : grow lo hi m = grow lo (lo + split (hi - lo)) m ++ [(lo + split (hi - lo), hi)] := by
  rw [grow, if_neg h0, dif_pos h, if_pos hm]
theorem grow_high {lo hi m : Nat} (h0 : hi ≠ m) (h : 2 ≤ hi - lo) (hm : ¬ m ≤ lo + split (hi - lo)) : grow lo hi m = grow (lo + split (hi - lo)) hi m ++ [(lo, lo + split (hi - lo))] := by
  rw [grow, if_neg h0, dif_pos h, if_neg hm]
theorem grow_length : ∀ (j lo hi m : Nat), hi - lo ≤ 2 ^ j → (grow lo hi m).length ≤ j + 1
  | 0, lo, hi, m, h => by
    rw [grow]
    split
    · split
      · exact Nat.zero_le _
      · exact Nat.le_refl _
    · rw [dif_neg (by simp at h; omega)]; exact Nat.zero_le _
  | j + 1, lo, hi, m, h => by
    by_cases h0 : hi = m
    · subst h0
      rw [grow, if_pos rfl]
      split
      · exact Nat.zero_le _
      · simp
    by_cases h2 : 2 ≤ hi - lo
    · have h3 := split_half h2 h
      have h4 := split_ge h2
      by_cases h5 : m ≤ lo + split (hi - lo)
      · rw [grow_low h0 h2 h5, List.length_append, List.length_singleton]
        have := grow_length j lo (lo + split (hi - lo)) m (by omega)
        omega
      · rw [grow_high h0 h2 h5, List.length_append, List.length_singleton]
        have := grow_length j (lo + split (hi - lo)) hi m (by omega)
        omega
    · rw [grow, if_neg h0, dif_neg h2]; exact Nat.zero_le _
theorem grow_within : ∀ (n lo hi m : Nat), hi - lo = n → lo < hi → Within lo hi (grow lo hi m) := by
  intro n
  induction n using Nat.strongRecOn with
  | _ n ih =>
    intro lo hi m hn hle
    by_cases h0 : hi = m
    · subst h0
      rw [grow, if_pos rfl]
      split
      · exact within_nil _ _
      · exact (within_nil lo hi).snoc (Nat.le_refl _) hle (Nat.le_refl _)
    by_cases h2 : 2 ≤ hi - lo
    · have hs := split_lt h2
      have hp := split_pos (hi - lo)
      by_cases h5 : m ≤ lo + split (hi - lo)
      · rw [grow_low h0 h2 h5]
        exact ((ih _ (by omega) lo (lo + split (hi - lo)) m rfl (by omega)).more (Nat.le_refl _) (by omega)).snoc (by omega) (by omega) (Nat.le_refl _)
      · rw [grow_high h0 h2 h5]
        exact ((ih _ (by omega) (lo + split (hi - lo)) hi m rfl (by omega)).more (by omega) (Nat.le_refl _)).snoc (Nat.le_refl _) (by omega) (by omega)
    · rw [grow, if_neg h0, dif_neg h2]; exact within_nil _ _

section
variable {D I : Type} (H : Hasher D I)
/-- The elements of a part. -/
def cut (l : List D) (lo hi : Nat) : List D := (l.take hi).drop lo
theorem cut_length {l : List D} {lo hi : Nat} (h : hi ≤ l.length) : (cut l lo hi).length = hi - lo := by
  unfold cut; rw [List.length_drop, List.length_take]; omega
theorem cut_take {l : List D} {lo mid hi : Nat} (h1 : lo ≤ mid) (h2 : mid ≤ hi) : (cut l lo hi).take (mid - lo) = cut l lo mid := by
  unfold cut
  rw [List.take_drop, show lo + (mid - lo) = mid by omega, List.take_take, Nat.min_eq_left h2]
theorem cut_drop {l : List D} {lo mid hi : Nat} (h1 : lo ≤ mid) : (cut l lo hi).drop (mid - lo) = cut l mid hi := by
  unfold cut
  rw [List.drop_drop, show lo + (mid - lo) = mid by omega]
theorem cut_all (l : List D) : cut l 0 l.length = l := by unfold cut; simp
/-- The roots of parts. -/
def rts (l : List D) (ps : List (Nat × Nat)) : List D := ps.map fun p => root H (cut l p.1 p.2)
theorem rts_snoc (l : List D) (ps : List (Nat × Nat)) (a b : Nat) : rts H l (ps ++ [(a, b)]) = rts H l ps ++ [root H (cut l a b)] := by simp [rts]
theorem sibs_prove (l : List D) : ∀ (n lo hi i : Nat), hi - lo = n → lo ≤ i → i < hi → hi ≤ l.length → rts H l (sibs lo hi i) = prove H (cut l lo hi) (i - lo) := by
  intro n
  induction n using Nat.strongRecOn with
  | _ n ih =>
    intro lo hi i hn h1 h2 h3
    have hl := cut_length (lo := lo) h3
    by_cases h4 : 2 ≤ hi - lo
    · have hs := split_lt h4
      have hp := split_pos (hi - lo)
      obtain ⟨k, hk⟩ : ∃ k, k = split (hi - lo) := ⟨_, rfl⟩
      have et := cut_take (l := l) (lo := lo) (mid := lo + k) (hi := hi) (by omega) (by omega)
      have ed := cut_drop (l := l) (lo := lo) (mid := lo + k) (hi := hi) (by omega)
      rw [show lo + k - lo = k by omega] at et ed
      by_cases h5 : i < lo + split (hi - lo)
      · rw [sibs_low h4 h5, rts_snoc, prove_low H (by rw [hl]; exact h4) (by rw [hl]; omega), hl, ← hk, et, ed, ih _ (by omega) lo (lo + k) i rfl h1 (by omega) (by omega)]
      · rw [sibs_high h4 h5, rts_snoc, prove_high H (by rw [hl]; exact h4) (by rw [hl]; omega), hl, ← hk, et, ed, ih _ (by omega) (lo + k) hi i rfl (by omega) h2 h3]
        rw [show i - lo - k = i - (lo + k) by omega]
    · rw [sibs_one h4, prove_one H (by rw [hl]; exact h4)]
      rfl
theorem grow_sub (l : List D) : ∀ (n lo hi m : Nat), hi - lo = n → lo < m → m ≤ hi → hi ≤ l.length → rts H l (grow lo hi m) = sub H (cut l lo hi) (m - lo) (decide (lo = 0)) := by
  intro n
  induction n using Nat.strongRecOn with
  | _ n ih =>
    intro lo hi m hn h1 h2 h3
    have hl := cut_length (lo := lo) h3
    by_cases h0 : hi = m
    · subst h0
      by_cases hz : lo = 0
      · subst hz
        rw [grow_whole, decide_eq_true rfl, sub_whole H (by rw [hl])]
        rfl
      · rw [grow_part hz, decide_eq_false hz, sub_part H (by rw [hl])]
        rfl
    · have h4 : 2 ≤ hi - lo := by omega
      have hs := split_lt h4
      have hp := split_pos (hi - lo)
      obtain ⟨k, hk⟩ : ∃ k, k = split (hi - lo) := ⟨_, rfl⟩
      have et := cut_take (l := l) (lo := lo) (mid := lo + k) (hi := hi) (by omega) (by omega)
      have ed := cut_drop (l := l) (lo := lo) (mid := lo + k) (hi := hi) (by omega)
      rw [show lo + k - lo = k by omega] at et ed
      by_cases h5 : m ≤ lo + split (hi - lo)
      · rw [grow_low h0 h4 h5, rts_snoc, sub_low H (by rw [hl]; omega) (by rw [hl]; exact h4) (by rw [hl]; omega), hl, ← hk, et, ed, ih _ (by omega) lo (lo + k) m rfl h1 (by omega) (by omega)]
      · rw [grow_high h0 h4 h5, rts_snoc, sub_high H (by rw [hl]; omega) (by rw [hl]; exact h4) (by rw [hl]; omega), hl, ← hk, et, ed, ih _ (by omega) (lo + k) hi m rfl (by omega) h2 h3]
        rw [decide_eq_false (show ¬ lo + k = 0 by omega), show m - lo - k = m - (lo + k) by omega]

/-- The hash inputs of a proof by its parts; both are read from their ends. -/
def fol (i : Nat) : List (Nat × Nat) → List D → D → List I
  | p :: ps, x :: xs, d =>
    match fol i ps xs d with
    | t :: l => (if p.2 ≤ i then H.ni x (H.sh t) else H.ni (H.sh t) x) :: t :: l
    | [] => []
  | _, _, d => [H.li d]
theorem fol_cons (i : Nat) : ∀ (ps : List (Nat × Nat)) (xs : List D) (d : D), ∃ t l, fol H i ps xs d = t :: l
  | [], _, d => ⟨H.li d, [], by rw [fol]; intro _ _ _ _ h; cases h⟩
  | _ :: _, [], d => ⟨H.li d, [], by rw [fol]; intro _ _ _ _ _ h; cases h⟩
  | p :: ps, x :: xs, d => by
    obtain ⟨t, l, e⟩ := fol_cons i ps xs d
    rw [fol, e]
    exact ⟨_, _, rfl⟩
theorem fol_step (i : Nat) {p : Nat × Nat} {ps : List (Nat × Nat)} {x : D} {xs : List D} {d : D} {t : I} {l : List I} (h : fol H i ps xs d = t :: l) :
    fol H i (p :: ps) (x :: xs) d = (if p.2 ≤ i then H.ni x (H.sh t) else H.ni (H.sh t) x) :: t :: l := by rw [fol, h]
theorem fol_nil (i : Nat) (d : D) : fol H i [] [] d = [H.li d] := by rw [fol]; intro _ _ _ _ h; cases h
theorem inputs_sibs : ∀ (n lo hi i : Nat) (r : List D) (d : D), hi - lo = n → lo ≤ i → i < hi →
    inputs H r (hi - lo) (i - lo) d = if r.length = (sibs lo hi i).length then some (fol H i (sibs lo hi i).reverse r d) else none := by
  intro n
  induction n using Nat.strongRecOn with
  | _ n ih =>
    intro lo hi i r d hn h1 h2
    by_cases h4 : 2 ≤ hi - lo
    · have hs := split_lt h4
      have hp := split_pos (hi - lo)
      cases r with
      | nil =>
        rw [inputs, if_neg (by omega), if_neg]
        by_cases h5 : i < lo + split (hi - lo)
        · rw [sibs_low h4 h5]; simp
        · rw [sibs_high h4 h5]; simp
      | cons x r =>
        rw [inputs, if_neg (by omega)]
        by_cases h5 : i < lo + split (hi - lo)
        · rw [if_pos (by omega), sibs_low h4 h5]
          have e := ih (split (hi - lo)) (by omega) lo (lo + split (hi - lo)) i r d (by omega) h1 h5
          rw [show lo + split (hi - lo) - lo = split (hi - lo) by omega] at e
          rw [e, List.length_append, List.length_cons, List.length_singleton, List.reverse_append, List.reverse_singleton, List.singleton_append]
          by_cases h6 : r.length = (sibs lo (lo + split (hi - lo)) i).length
          · rw [if_pos h6, if_pos (by omega)]
            obtain ⟨t, l, e2⟩ := fol_cons H i (sibs lo (lo + split (hi - lo)) i).reverse r d
            rw [fol_step H i e2, e2, if_neg (show ¬ hi ≤ i by omega)]
          · rw [if_neg h6, if_neg (by omega)]
        · rw [if_neg (by omega), sibs_high h4 h5]
          have e := ih (hi - (lo + split (hi - lo))) (by omega) (lo + split (hi - lo)) hi i r d rfl (by omega) h2
          rw [show hi - (lo + split (hi - lo)) = hi - lo - split (hi - lo) by omega, show i - (lo + split (hi - lo)) = i - lo - split (hi - lo) by omega] at e
          rw [e, List.length_append, List.length_cons, List.length_singleton, List.reverse_append, List.reverse_singleton, List.singleton_append]
          by_cases h6 : r.length = (sibs (lo + split (hi - lo)) hi i).length
          · rw [if_pos h6, if_pos (by omega)]
            obtain ⟨t, l, e2⟩ := fol_cons H i (sibs (lo + split (hi - lo)) hi i).reverse r d
            rw [fol_step H i e2, e2, if_pos (show lo + split (hi - lo) ≤ i by omega)]
          · rw [if_neg h6, if_neg (by omega)]
    · have hz : hi - lo = 1 := by omega
      rw [sibs_one h4, hz]
      cases r with
      | nil =>
        rw [inputs, if_pos rfl, if_pos (show ([] : List D).length = ([] : List (Nat × Nat)).length from rfl), List.reverse_nil, fol_nil]
      | cons x r =>
        rw [inputs, if_pos (by omega), if_neg (by simp)]

/-- The pair of a prefix proof by its parts; both are read from their ends. -/
def fpr (old : D) (m : Nat) : List (Nat × Nat) → List D → D × D
  | p :: ps, x :: xs =>
    if p.2 = m then (x, x)
    else if p.2 < m then (H.node x (fpr old m ps xs).1, H.node x (fpr old m ps xs).2)
    else ((fpr old m ps xs).1, H.node (fpr old m ps xs).2 x)
  | _, _ => (old, old)
theorem fpr_nil (old : D) (m : Nat) : fpr H old m [] [] = (old, old) := by rw [fpr]; intro _ _ _ _ h; cases h
theorem grow_pair (z old : D) : ∀ (n lo hi m : Nat) (r : List D), hi - lo = n → lo < m → m ≤ hi →
    (pair H z old r (m - lo) (hi - lo) (decide (lo = 0))).2.2 = decide (r.length = (grow lo hi m).length) ∧
    (r.length = (grow lo hi m).length → pair H z old r (m - lo) (hi - lo) (decide (lo = 0)) = ((fpr H old m (grow lo hi m).reverse r).1, (fpr H old m (grow lo hi m).reverse r).2, true)) := by
  intro n
  induction n using Nat.strongRecOn with
  | _ n ih =>
    intro lo hi m r hn h1 h2
    by_cases h0 : hi = m
    · subst h0
      by_cases hz : lo = 0
      · subst hz
        rw [grow_whole, decide_eq_true rfl, List.reverse_nil]
        cases r with
        | nil =>
          rw [pair, if_pos ⟨rfl, rfl⟩, fpr_nil]
          exact ⟨rfl, fun _ => rfl⟩
        | cons x r =>
          rw [pair, if_pos ⟨rfl, rfl⟩]
          exact ⟨rfl, fun h => by simp at h⟩
      · rw [grow_part hz, decide_eq_false hz]
        cases r with
        | nil =>
          rw [pair, if_neg (by simp)]
          exact ⟨rfl, fun h => by simp at h⟩
        | cons x r =>
          rw [pair, if_neg (by simp), if_pos rfl]
          cases r with
          | nil =>
            refine ⟨rfl, fun _ => ?_⟩
            rw [List.reverse_singleton, fpr, if_pos rfl]
            rfl
          | cons y r => exact ⟨by simp, fun h => by simp at h⟩
    · have h4 : 2 ≤ hi - lo := by omega
      have hs := split_lt h4
      have hp := split_pos (hi - lo)
      have hne : m - lo ≠ hi - lo := by omega
      cases r with
      | nil =>
        have e : (grow lo hi m).length ≠ 0 := by
          by_cases h5 : m ≤ lo + split (hi - lo)
          · rw [grow_low h0 h4 h5]; simp
          · rw [grow_high h0 h4 h5]; simp
        rw [pair, if_neg (fun h => hne h.1)]
        exact ⟨by simp; exact fun h => e h.symm, fun h => absurd h.symm e⟩
      | cons x r =>
        by_cases h5 : m ≤ lo + split (hi - lo)
        · have e := ih (split (hi - lo)) (by omega) lo (lo + split (hi - lo)) m r (by omega) h1 h5
          rw [show lo + split (hi - lo) - lo = split (hi - lo) by omega] at e
          rw [grow_low h0 h4 h5, pair_low H hne (by omega), List.length_append, List.length_cons, List.length_singleton, List.reverse_append, List.reverse_singleton, List.singleton_append]
          refine ⟨?_, fun h => ?_⟩
          · show (pair H z old r (m - lo) (split (hi - lo)) (decide (lo = 0))).2.2 = _
            rw [e.1]; simp
          · rw [e.2 (by omega), fpr, if_neg (show ¬ hi = m by omega), if_neg (show ¬ hi < m by omega)]
        · have e := ih (hi - (lo + split (hi - lo))) (by omega) (lo + split (hi - lo)) hi m r rfl (by omega) h2
          rw [show hi - (lo + split (hi - lo)) = hi - lo - split (hi - lo) by omega, show m - (lo + split (hi - lo)) = m - lo - split (hi - lo) by omega, decide_eq_false (show ¬ lo + split (hi - lo) = 0 by omega)] at e
          rw [grow_high h0 h4 h5, pair_high H hne (by omega), List.length_append, List.length_cons, List.length_singleton, List.reverse_append, List.reverse_singleton, List.singleton_append]
          refine ⟨?_, fun h => ?_⟩
          · show (pair H z old r (m - lo - split (hi - lo)) (hi - lo - split (hi - lo)) false).2.2 = _
            rw [e.1]; simp
          · rw [e.2 (by omega), fpr, if_neg (show ¬ lo + split (hi - lo) = m by omega), if_pos (show lo + split (hi - lo) < m by omega)]
end

/-! ### Peaks -/
/-- How many ones a number ends with. -/
def tz (n : Nat) : Nat := if n % 2 = 1 then 1 + tz (n / 2) else 0
termination_by n
decreasing_by omega
theorem tz_odd {n : Nat} (h : n % 2 = 1) : tz n = 1 + tz (n / 2) := by rw [tz, if_pos h]
theorem tz_even {n : Nat} (h : n % 2 = 0) : tz n = 0 := by rw [tz, if_neg (by omega)]
theorem tz_ones : ∀ (n : Nat), tz n ≤ ones n := by
  intro n
  induction n using Nat.strongRecOn with
  | _ n ih =>
    by_cases h : n % 2 = 1
    · rw [tz_odd h, ones_step (by omega)]
      have := ih (n / 2) (by omega)
      omega
    · rw [tz_even (by omega)]; exact Nat.zero_le _
section
variable {D I : Type} (H : Hasher D I)
/-- Some peaks, read from the last one on, taken into a root. -/
def fold (t : Nat) (r : List D) (d : D) : D := (r.take t).foldl (fun v y => H.node y v) d
theorem fold_succ {t : Nat} {r : List D} {x : D} (h : r[t]? = some x) (d : D) : fold H (t + 1) r d = H.node x (fold H t r d) := by
  unfold fold
  rw [List.take_add_one, h, List.foldl_append]
  rfl
theorem addUp_tz : ∀ (n : Nat) (r : List D) (d : D), ones n ≤ r.length → addUp H r n d = (r.drop (tz n), fold H (tz n) r d) := by
  intro n
  induction n using Nat.strongRecOn with
  | _ n ih =>
    intro r d h
    by_cases h1 : n % 2 = 1
    · rw [ones_step (by omega)] at h
      cases r with
      | nil => simp at h; omega
      | cons x r =>
        rw [addUp_odd H h1, tz_odd h1, ih (n / 2) (by omega) r _ (by simp at h; omega)]
        rw [Nat.add_comm, List.drop_succ_cons]
        rfl
    · rw [addUp_even H (by omega), tz_even (by omega)]
      rfl
theorem added_tz {rs : List D} {n : Nat} (d : D) (h : ones n ≤ rs.length) : added H rs n d = rs.take (rs.length - tz n) ++ [fold H (tz n) rs.reverse (H.leaf d)] := by
  unfold added
  rw [addUp_tz H n rs.reverse _ (by rw [List.length_reverse]; exact h)]
  simp [List.drop_reverse]
end
end Mk
end Go.Proofs.YthpkeaafgabjiaaDoor

