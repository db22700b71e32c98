/- The tokens of a text as mathematics: what lies between them, what is read again of them, joined and moved. No condition. -/
import Derived.KernelRfl
namespace Go.Proofs.YtjijlepkcghmeaaDoor
namespace Lx

def letter (c : UInt8) : Bool := decide (97 ≤ c.toNat) && decide (c.toNat ≤ 122)
def digit (c : UInt8) : Bool := decide (48 ≤ c.toNat) && decide (c.toNat ≤ 57)
def isW (c : UInt8) : Bool := letter c || digit c
def blank (c : UInt8) : Bool := c == 32 || c == 9 || c == 10
/-- The byte at the beginning, 0 behind the end. -/
def hd : List UInt8 → UInt8
  | [] => 0
  | c :: _ => c
/-- What is left behind blanks and comments; true: within a comment. -/
def skip : Bool → List UInt8 → List UInt8
  | _, [] => []
  | true, c :: r => if c = 10 then skip false r else skip true r
  | false, c :: r => if c = 35 then skip true r else if blank c = true then skip false r else c :: r
def wlen : List UInt8 → Nat
  | [] => 0
  | c :: r => if (isW c || (c == 45 && isW (hd r))) = true then wlen r + 1 else 0
def dlen : List UInt8 → Nat
  | [] => 0
  | c :: r => if digit c = true then dlen r + 1 else 0
def cap : Nat := 1099511627777
def val : Nat → List UInt8 → Nat
  | n, [] => n
  | n, c :: r => if digit c = true then val (min (10 * n + (c.toNat - 48)) cap) r else n
def unit (c : UInt8) : Nat := if c = 115 then 1 else if c = 109 then 60 else if c = 104 then 3600 else if c = 100 then 86400 else 0
/-- The length of a number and its value. -/
def num (s : List UInt8) : Option (Nat × Nat) :=
  if 1 < dlen s ∧ hd s = 48 then none
  else if 0 < unit (hd (s.drop (dlen s))) then
    (if isW (hd (s.drop (dlen s + 1))) = true then none else some (dlen s + 1, min (val 0 s * unit (hd (s.drop (dlen s)))) cap))
  else (if isW (hd (s.drop (dlen s))) = true then none else some (dlen s, val 0 s))
def mark (c : UInt8) : Bool := c == 123 || c == 125 || c == 40 || c == 41 || c == 59 || c == 44 || c == 61
def sgn (s : List UInt8) : Nat := if hd s = 45 ∧ hd s.tail = 62 then 2 else if mark (hd s) = true then 1 else 0
/-- The token at the beginning: kind, length, value. -/
def one (s : List UInt8) : Option (Nat × Nat × Nat) :=
  if letter (hd s) = true then some (1, wlen s, 0)
  else if digit (hd s) = true then (num s).map fun p => (2, p.1, p.2)
  else if sgn s = 0 then none else some (3, sgn s, 0)
structure Tok where
  kind : Nat
  text : List UInt8
  n : Nat
  pos : Nat
inductive Res where
  | ok (l : List Tok)
  | bad (pos e : Nat)
def Res.cons (t : Tok) : Res → Res
  | .ok l => .ok (t :: l)
  | .bad p e => .bad p e
def toksF : Nat → Nat → List UInt8 → Res
  | 0, _, _ => .ok []
  | f + 1, i, s =>
    if skip false s = [] then .ok []
    else match one (skip false s) with
      | none => .bad (i + (s.length - (skip false s).length)) 3
      | some (k, m, n) =>
        if 1099511627776 < n then .bad (i + (s.length - (skip false s).length)) 2
        else (toksF f (i + (s.length - (skip false s).length) + m) ((skip false s).drop m)).cons ⟨k, (skip false s).take m, n, i + (s.length - (skip false s).length)⟩
/-- The tokens of a text whose first byte has the index i. -/
def toks (i : Nat) (s : List UInt8) : Res := toksF (s.length + 1) i s

/-! ### Lengths -/
theorem skip_le : ∀ (b : Bool) (s : List UInt8), (skip b s).length ≤ s.length
  | b, [] => by cases b <;> simp [skip]
  | true, c :: r => by
    rw [skip]; split
    · have := skip_le false r; simp; omega
    · have := skip_le true r; simp; omega
  | false, c :: r => by
    rw [skip]; split
    · have := skip_le true r; simp; omega
    · split
      · have := skip_le false r; simp; omega
      · simp
theorem wlen_le : ∀ s, wlen s ≤ s.length
  | [] => by simp [wlen]
  | c :: r => by rw [wlen]; split <;> (have := wlen_le r; simp; try omega)
theorem dlen_le : ∀ s, dlen s ≤ s.length
  | [] => by simp [dlen]
  | c :: r => by rw [dlen]; split <;> (have := dlen_le r; simp; try omega)
theorem hd_drop {s : List UInt8} {k : Nat} (h : hd (s.drop k) ≠ 0) : k < s.length := by
  rcases Nat.lt_or_ge k s.length with h1 | h1
  · exact h1
  · rw [List.drop_eq_nil_of_le h1] at h; exact absurd rfl h
theorem unit_ne {c : UInt8} (h : 0 < unit c) : c ≠ 0 := by
  intro e; subst e; revert h; decide
theorem one_len {s : List UInt8} {k m n : Nat} (h : one s = some (k, m, n)) : 1 ≤ m ∧ m ≤ s.length := by
  unfold one at h
  split at h
  · rename_i h1
    cases h
    cases s with
    | nil => exact absurd h1 (by decide)
    | cons c r =>
      have := wlen_le (c :: r)
      refine ⟨?_, this⟩
      rw [wlen, if_pos (by simp only [isW, hd] at *; simp [h1])]
      omega
  · split at h
    · rename_i h1
      cases s with
      | nil => exact absurd h1 (by decide)
      | cons c r =>
        have h1' : digit c = true := h1
        have hd1 : 1 ≤ dlen (c :: r) := by rw [dlen, if_pos h1']; omega
        have hd2 := dlen_le (c :: r)
        unfold num at h
        split at h
        · cases h
        · split at h
          · rename_i hu
            have := hd_drop (unit_ne hu)
            split at h
            · cases h
            · cases h; omega
          · split at h
            · cases h
            · cases h; omega
    · split at h
      · cases h
      · rename_i h1
        cases h
        refine ⟨by omega, ?_⟩
        unfold sgn at h1 ⊢
        cases s with
        | nil => exact absurd (by decide) h1
        | cons c r =>
          cases r with
          | nil =>
            rw [if_neg (by simp [hd])]
            split <;> simp
          | cons d r =>
            split
            · simp
            · split <;> simp
theorem toksF_eq : ∀ (f g i : Nat) (s : List UInt8), s.length < f → s.length < g → toksF f i s = toksF g i s
  | 0, _, _, _, h, _ => absurd h (Nat.not_lt_zero _)
  | _ + 1, 0, _, _, _, h => absurd h (Nat.not_lt_zero _)
  | f + 1, g + 1, i, s, hf, hg => by
    rw [toksF, toksF]
    split
    · rfl
    · split
      · rfl
      · rename_i k m n h
        have h1 := one_len h
        have h2 := skip_le false s
        have : ((skip false s).drop m).length < f := by rw [List.length_drop]; omega
        have : ((skip false s).drop m).length < g := by rw [List.length_drop]; omega
        split
        · rfl
        · rw [toksF_eq f g _ _ (by assumption) (by assumption)]
/-- How the tokens of a text begin. -/
theorem toks_eq (i : Nat) (s : List UInt8) : toks i s = if skip false s = [] then .ok [] else match one (skip false s) with
      | none => .bad (i + (s.length - (skip false s).length)) 3
      | some (k, m, n) =>
        if 1099511627776 < n then .bad (i + (s.length - (skip false s).length)) 2
        else (toks (i + (s.length - (skip false s).length) + m) ((skip false s).drop m)).cons ⟨k, (skip false s).take m, n, i + (s.length - (skip false s).length)⟩ := by
  unfold toks
  rw [toksF]
  split
  · rfl
  · split
    · rfl
    · rename_i k m n h
      have h1 := one_len h
      have h2 := skip_le false s
      split
      · rfl
      · rw [toksF_eq s.length (((skip false s).drop m).length + 1) _ _ (by rw [List.length_drop]; omega) (by omega)]

/-! ### What lies between -/
theorem skip_parts : ∀ (b : Bool) (s : List UInt8), skip b (s.take (s.length - (skip b s).length)) = [] ∧ s.drop (s.length - (skip b s).length) = skip b s
  | b, [] => by cases b <;> simp [skip]
  | true, c :: r => by
    rw [skip]
    split
    · rename_i h
      have ih := skip_parts false r
      have hl := skip_le false r
      rw [show (c :: r).length - (skip false r).length = (r.length - (skip false r).length) + 1 by rw [List.length_cons]; omega, List.take_succ_cons, List.drop_succ_cons, skip, if_pos h]
      exact ih
    · rename_i h
      have ih := skip_parts true r
      have hl := skip_le true r
      rw [show (c :: r).length - (skip true r).length = (r.length - (skip true r).length) + 1 by rw [List.length_cons]; omega, List.take_succ_cons, List.drop_succ_cons, skip, if_neg h]
      exact ih
  | false, c :: r => by
    rw [skip]
    split
    · rename_i h
      have ih := skip_parts true r
      have hl := skip_le true r
      rw [show (c :: r).length - (skip true r).length = (r.length - (skip true r).length) + 1 by rw [List.length_cons]; omega, List.take_succ_cons, List.drop_succ_cons, skip, if_pos h]
      exact ih
    · rename_i h
      split
      · rename_i h2
        have ih := skip_parts false r
        have hl := skip_le false r
        rw [show (c :: r).length - (skip false r).length = (r.length - (skip false r).length) + 1 by rw [List.length_cons]; omega, List.take_succ_cons, List.drop_succ_cons, skip, if_neg h, if_pos h2]
        exact ih
      · simp [skip]
theorem toks_gap (i : Nat) {s : List UInt8} (h : skip false s = []) : toks i s = .ok [] := by rw [toks_eq, if_pos h]
/-- The tokens lie in the text one behind the other, with blanks and comments between them. -/
def Lie (i : Nat) (s : List UInt8) : List Tok → Prop
  | [] => skip false s = []
  | t :: l => i ≤ t.pos ∧ skip false (s.take (t.pos - i)) = [] ∧ t.text = (s.drop (t.pos - i)).take t.text.length ∧ 1 ≤ t.text.length ∧ t.pos - i + t.text.length ≤ s.length ∧
    Lie (t.pos + t.text.length) (s.drop (t.pos - i + t.text.length)) l
theorem Res.cons_ok {t : Tok} {r : Res} {l : List Tok} (h : r.cons t = .ok l) : ∃ m, r = .ok m ∧ l = t :: m := by
  cases r with
  | ok m => cases h; exact ⟨m, rfl, rfl⟩
  | bad p e => cases h
theorem toks_lie : ∀ (f i : Nat) (s : List UInt8) (l : List Tok), s.length < f → toks i s = .ok l → Lie i s l
  | 0, _, _, _, h, _ => absurd h (Nat.not_lt_zero _)
  | f + 1, i, s, l, hf, h => by
    rw [toks_eq] at h
    split at h
    · rename_i h0
      cases h
      exact h0
    · split at h
      · cases h
      · rename_i k m n h1
        split at h
        · cases h
        · obtain ⟨l2, h2, rfl⟩ := Res.cons_ok h
          have hm := one_len h1
          have hsl := skip_le false s
          have hp := skip_parts false s
          have ht : (List.take m (skip false s)).length = m := by rw [List.length_take]; omega
          have ih := toks_lie f _ _ _ (by rw [List.length_drop]; omega) h2
          have e : i + (s.length - (skip false s).length) - i = s.length - (skip false s).length := by omega
          refine ⟨by simp, ?_, ?_, ?_, ?_, ?_⟩
          · simp only [e]; exact hp.1
          · simp only [e, ht]; rw [hp.2]
          · simp only [ht]; omega
          · simp only [e, ht]; omega
          · simp only [e, ht]
            rw [← List.drop_drop, hp.2]
            exact ih

/-! ### A newline behind a text -/
theorem hd_app (s r : List UInt8) : s ≠ [] → hd (s ++ r) = hd s := by
  intro h
  cases s with
  | nil => exact absurd rfl h
  | cons c s => rfl
theorem skip_app (r : List UInt8) : ∀ (b : Bool) (a : List UInt8), (skip b a = [] → skip b (a ++ 10 :: r) = skip false r) ∧ (skip b a ≠ [] → skip b (a ++ 10 :: r) = skip b a ++ 10 :: r)
  | true, [] => ⟨fun _ => by simp [skip], fun h => absurd (by simp [skip]) h⟩
  | false, [] => ⟨fun _ => by simp [skip, blank], fun h => absurd (by simp [skip]) h⟩
  | true, c :: a => by
    have i1 := skip_app r false a
    have i2 := skip_app r true a
    rw [List.cons_append, skip, skip]
    split
    · exact i1
    · exact i2
  | false, c :: a => by
    have i1 := skip_app r false a
    have i2 := skip_app r true a
    rw [List.cons_append, skip, skip]
    split
    · exact i2
    · split
      · exact i1
      · exact ⟨fun h => (by cases h), fun _ => rfl⟩
theorem wlen_app (r : List UInt8) : ∀ a : List UInt8, wlen (a ++ 10 :: r) = wlen a
  | [] => by rw [List.nil_append, wlen, wlen, if_neg (by simp [isW, letter, digit])]
  | c :: a => by
    rw [List.cons_append, wlen, wlen, wlen_app r a]
    have : isW (hd (a ++ 10 :: r)) = isW (hd a) := by
      cases a with
      | nil => rfl
      | cons d a => rfl
    rw [this]
theorem dlen_app (r : List UInt8) : ∀ a : List UInt8, dlen (a ++ 10 :: r) = dlen a
  | [] => by rw [List.nil_append, dlen, dlen, if_neg (by simp [digit])]
  | c :: a => by rw [List.cons_append, dlen, dlen, dlen_app r a]
theorem val_app (r : List UInt8) : ∀ (a : List UInt8) (n : Nat), val n (a ++ 10 :: r) = val n a
  | [], n => by rw [List.nil_append, val, val, if_neg (by simp [digit])]
  | c :: a, n => by rw [List.cons_append, val, val, val_app r a]
theorem hd_drop_app (r : List UInt8) (a : List UInt8) (k : Nat) (hk : k ≤ a.length) : unit (hd ((a ++ 10 :: r).drop k)) = unit (hd (a.drop k)) ∧ isW (hd ((a ++ 10 :: r).drop k)) = isW (hd (a.drop k)) := by
  rw [List.drop_append_of_le_length hk]
  cases a.drop k with
  | nil => exact ⟨rfl, rfl⟩
  | cons d t => exact ⟨rfl, rfl⟩
theorem num_app (r : List UInt8) {a : List UInt8} (ha : a ≠ []) : num (a ++ 10 :: r) = num a := by
  unfold num
  have h1 := hd_drop_app r a (dlen a) (dlen_le a)
  rw [dlen_app, val_app, hd_app _ _ ha, h1.1, h1.2]
  split
  · rfl
  · split
    · rename_i hu
      have := hd_drop (unit_ne hu)
      rw [(hd_drop_app r a (dlen a + 1) this).2]
    · rfl
theorem sgn_app (r : List UInt8) {a : List UInt8} (ha : a ≠ []) : sgn (a ++ 10 :: r) = sgn a := by
  unfold sgn
  rw [hd_app _ _ ha]
  cases a with
  | nil => exact absurd rfl ha
  | cons c a =>
    cases a with
    | nil => simp [hd]
    | cons d a => rfl
theorem one_app (r : List UInt8) {a : List UInt8} (ha : a ≠ []) : one (a ++ 10 :: r) = one a := by
  unfold one
  rw [hd_app _ _ ha, wlen_app, num_app r ha, sgn_app r ha]
/-- The tokens of two texts with a newline between them. -/
def Res.after (l : List Tok) : Res → Res
  | .ok m => .ok (l ++ m)
  | .bad p e => .bad p e
/-- What is skipped at the beginning only moves the indices. -/
theorem toks_skip (i : Nat) {s b : List UInt8} (h : skip false s = skip false b) (hl : b.length ≤ s.length) : toks i s = toks (i + (s.length - b.length)) b := by
  have h1 := skip_le false b
  have e : i + (s.length - (skip false b).length) = i + (s.length - b.length) + (b.length - (skip false b).length) := by omega
  rw [toks_eq i s, toks_eq (i + (s.length - b.length)) b, h, e]
theorem toks_app (r : List UInt8) : ∀ (f i : Nat) (a : List UInt8) (l : List Tok), a.length < f → toks i a = .ok l → toks i (a ++ 10 :: r) = (toks (i + a.length + 1) r).after l
  | 0, _, _, _, h, _ => absurd h (Nat.not_lt_zero _)
  | f + 1, i, a, l, hf, h => by
    rw [toks_eq] at h
    have hsk := skip_app r false a
    split at h
    · rename_i h0
      cases h
      rw [toks_skip i (hsk.1 h0) (by simp; omega)]
      rw [show i + ((a ++ 10 :: r).length - r.length) = i + a.length + 1 by simp; omega]
      cases toks (i + a.length + 1) r <;> rfl
    · rename_i h0
      split at h
      · cases h
      · rename_i k m n h1
        split at h
        · cases h
        · rename_i hn
          obtain ⟨l2, h2, rfl⟩ := Res.cons_ok h
          have hm := one_len h1
          have hsl := skip_le false a
          have ih := toks_app r f _ _ _ (by rw [List.length_drop]; omega) h2
          have e1 : i + ((a ++ 10 :: r).length - (skip false a ++ 10 :: r).length) = i + (a.length - (skip false a).length) := by simp; omega
          have e2 : i + (a.length - (skip false a).length) + m + ((skip false a).drop m).length + 1 = i + a.length + 1 := by rw [List.length_drop]; omega
          rw [toks_eq, hsk.2 h0, if_neg (by simp), one_app r h0, h1]
          simp only []
          rw [if_neg hn, e1, List.drop_append_of_le_length hm.2, List.take_append_of_le_length hm.2, ih, e2]
          cases toks (i + a.length + 1) r <;> rfl
theorem skip_comment (b : List UInt8) : ∀ c : List UInt8, (∀ x ∈ c, x ≠ 10) → skip true (c ++ 10 :: b) = skip false b
  | [], _ => by simp [skip]
  | x :: c, h => by
    rw [List.cons_append, skip, if_neg (h x (by simp))]
    exact skip_comment b c (fun y hy => h y (by simp [hy]))
theorem toks_comment (i : Nat) (b c : List UInt8) (h : ∀ x ∈ c, x ≠ 10) : toks i (35 :: (c ++ 10 :: b)) = toks (i + c.length + 2) b := by
  rw [toks_skip i (show skip false (35 :: (c ++ 10 :: b)) = skip false b by rw [skip, if_pos rfl]; exact skip_comment b c h) (by simp; omega)]
  congr 1
  simp
  omega
def Tok.move (d : Nat) (t : Tok) : Tok := ⟨t.kind, t.text, t.n, t.pos + d⟩
def Res.move (d : Nat) : Res → Res
  | .ok l => .ok (l.map (Tok.move d))
  | .bad p e => .bad (p + d) e
theorem toks_move (d : Nat) : ∀ (f i : Nat) (s : List UInt8), s.length < f → toks (i + d) s = (toks i s).move d
  | 0, _, _, h => absurd h (Nat.not_lt_zero _)
  | f + 1, i, s, hf => by
    rw [toks_eq, toks_eq i s]
    have e : i + d + (s.length - (skip false s).length) = i + (s.length - (skip false s).length) + d := by omega
    rw [e]
    split
    · rfl
    · split
      · rfl
      · rename_i k m n h1
        have hm := one_len h1
        have hsl := skip_le false s
        split
        · rfl
        · have ih := toks_move d f (i + (s.length - (skip false s).length) + m) ((skip false s).drop m) (by rw [List.length_drop]; omega)
          rw [show i + (s.length - (skip false s).length) + d + m = i + (s.length - (skip false s).length) + m + d by omega, ih]
          cases toks (i + (s.length - (skip false s).length) + m) ((skip false s).drop m) <;> rfl

/-! ### A token is read again -/
/-- What may stand behind a token. -/
def Stop (r : List UInt8) : Prop := isW (hd r) = false ∧ hd r ≠ 45
theorem stop_nil : Stop [] := ⟨rfl, by decide⟩
theorem stop_blank (r : List UInt8) : Stop (32 :: r) := ⟨rfl, by simp [hd]⟩
theorem wlen_zero {r : List UInt8} (hr : Stop r) : wlen r = 0 := by
  cases r with
  | nil => rfl
  | cons c r =>
    have h1 : isW c = false := hr.1
    have h2 : c ≠ 45 := hr.2
    rw [wlen, if_neg (by simp [h1, h2])]
theorem wlen_stop {r : List UInt8} (hr : Stop r) : ∀ s : List UInt8, wlen (s.take (wlen s) ++ r) = wlen s
  | [] => by simp [wlen, wlen_zero hr]
  | c :: t => by
    by_cases h : (isW c || (c == 45 && isW (hd t))) = true
    · have ih := wlen_stop hr t
      have e : wlen (c :: t) = wlen t + 1 := by rw [wlen, if_pos h]
      rw [e, List.take_succ_cons, List.cons_append, wlen, if_pos ?_, ih]
      cases hc : isW c with
      | true => rfl
      | false =>
        rw [hc] at h
        simp only [Bool.false_or, Bool.and_eq_true, beq_iff_eq] at h
        obtain ⟨h1, h2⟩ := h
        cases t with
        | nil => exact absurd h2 (by decide)
        | cons d t =>
          have h3 : isW d = true := h2
          have e2 : wlen (d :: t) = wlen t + 1 := by rw [wlen, if_pos (by simp [h3])]
          rw [e2, List.take_succ_cons, List.cons_append]
          simp [hd, h1, h3]
    · have e : wlen (c :: t) = 0 := by rw [wlen, if_neg h]
      rw [e, List.take_zero, List.nil_append, wlen_zero hr]
theorem dlen_zero {r : List UInt8} (hr : digit (hd r) = false) : dlen r = 0 := by
  cases r with
  | nil => rfl
  | cons c r =>
    have h1 : digit c = false := hr
    rw [dlen, if_neg (by simp [h1])]
theorem dlen_stop {r : List UInt8} (hr : digit (hd r) = false) : ∀ s : List UInt8, dlen (s.take (dlen s) ++ r) = dlen s
  | [] => by simp [dlen, dlen_zero hr]
  | c :: t => by
    by_cases h : digit c = true
    · have ih := dlen_stop hr t
      have e : dlen (c :: t) = dlen t + 1 := by rw [dlen, if_pos h]
      rw [e, List.take_succ_cons, List.cons_append, dlen, if_pos h, ih]
    · have e : dlen (c :: t) = 0 := by rw [dlen, if_neg h]
      rw [e, List.take_zero, List.nil_append, dlen_zero hr]
theorem val_zero {r : List UInt8} (hr : digit (hd r) = false) (n : Nat) : val n r = n := by
  cases r with
  | nil => rfl
  | cons c r =>
    have h1 : digit c = false := hr
    rw [val, if_neg (by simp [h1])]
theorem val_stop {r : List UInt8} (hr : digit (hd r) = false) : ∀ (s : List UInt8) (n : Nat), val n (s.take (dlen s) ++ r) = val n s
  | [], n => by simp [dlen, val, val_zero hr]
  | c :: t, n => by
    by_cases h : digit c = true
    · have ih := val_stop hr t
      have e : dlen (c :: t) = dlen t + 1 := by rw [dlen, if_pos h]
      rw [e, List.take_succ_cons, List.cons_append, val, if_pos h, ih, val, if_pos h]
    · have e : dlen (c :: t) = 0 := by rw [dlen, if_neg h]
      rw [e, List.take_zero, List.nil_append, val_zero hr, val, if_neg h]
theorem hd_take {s : List UInt8} {m : Nat} (hm : 1 ≤ m) (r : List UInt8) (hs : s ≠ []) : hd (s.take m ++ r) = hd s := by
  cases s with
  | nil => exact absurd rfl hs
  | cons c t =>
    obtain ⟨j, rfl⟩ : ∃ j, m = j + 1 := ⟨m - 1, by omega⟩
    rfl
theorem unit_w {c : UInt8} (h : 0 < unit c) : isW c = true ∧ digit c = false := by
  unfold unit at h
  split at h
  · rename_i e; subst e; exact ⟨rfl, rfl⟩
  · split at h
    · rename_i e; subst e; exact ⟨rfl, rfl⟩
    · split at h
      · rename_i e; subst e; exact ⟨rfl, rfl⟩
      · split at h
        · rename_i e; subst e; exact ⟨rfl, rfl⟩
        · exact absurd h (Nat.lt_irrefl 0)
theorem digit_w {c : UInt8} (h : isW c = false) : digit c = false := by
  unfold isW at h
  simp only [Bool.or_eq_false_iff] at h
  exact h.2
theorem num_head {s : List UInt8} {k : Nat} (hk : k ≤ s.length) (hs : ¬ (1 < k ∧ hd s = 48)) (r : List UInt8) : ¬ (1 < k ∧ hd (s.take k ++ r) = 48) := by
  intro h
  rw [hd_take (Nat.le_of_lt h.1) r (by intro e; subst e; simp at hk; omega)] at h
  exact hs h
theorem num_stop {s r : List UInt8} {m n : Nat} (h : num s = some (m, n)) (hr : Stop r) : num (s.take m ++ r) = some (m, n) := by
  unfold num at h
  have hk := dlen_le s
  split at h
  · cases h
  · rename_i h0
    split at h
    · rename_i hu
      have hlt := hd_drop (unit_ne hu)
      split at h
      · cases h
      · rename_i hw
        cases h
        obtain ⟨u, hu2⟩ : ∃ u, u = hd (s.drop (dlen s)) := ⟨_, rfl⟩
        have hdig : digit (hd (u :: r)) = false := by show digit u = false; rw [hu2]; exact (unit_w hu).2
        have e : s.take (dlen s + 1) ++ r = s.take (dlen s) ++ (u :: r) := by
          rw [List.take_add_one, List.append_assoc]
          congr 1
          rw [hu2, List.drop_eq_getElem_cons hlt, List.getElem?_eq_getElem hlt]
          rfl
        have hl : (s.take (dlen s)).length = dlen s := by rw [List.length_take]; omega
        have e2 : (s.take (dlen s) ++ (u :: r)).drop (dlen s) = u :: r := by rw [List.drop_append_of_le_length (by omega), List.drop_eq_nil_of_le (by omega)]; rfl
        have e3 : (s.take (dlen s) ++ (u :: r)).drop (dlen s + 1) = r := by rw [← List.drop_drop, e2]; rfl
        rw [e]
        unfold num
        rw [dlen_stop hdig, val_stop hdig, if_neg (num_head hk h0 _), e2, e3, if_pos (by show 0 < unit u; rw [hu2]; exact hu), if_neg (by rw [hr.1]; simp)]
        show some (dlen s + 1, min (val 0 s * unit u) cap) = _
        rw [hu2]
    · rename_i hu
      split at h
      · cases h
      · rename_i hw
        cases h
        have hdig : digit (hd r) = false := digit_w hr.1
        have hl : (s.take (dlen s)).length = dlen s := by rw [List.length_take]; omega
        have e2 : (s.take (dlen s) ++ r).drop (dlen s) = r := by rw [List.drop_append_of_le_length (by omega), List.drop_eq_nil_of_le (by omega)]; rfl
        unfold num
        rw [dlen_stop hdig, val_stop hdig, if_neg (num_head hk h0 _), e2, if_neg (fun hx => by have := (unit_w hx).1; rw [hr.1] at this; cases this), if_neg (by rw [hr.1]; simp)]
theorem one_stop {s r : List UInt8} {k m n : Nat} (h : one s = some (k, m, n)) (hr : Stop r) : one (s.take m ++ r) = some (k, m, n) := by
  have hm := one_len h
  have hs : s ≠ [] := by intro e; subst e; simp at hm; omega
  unfold one at h ⊢
  rw [hd_take hm.1 r hs]
  split at h
  · rename_i h1
    cases h
    rw [if_pos h1, wlen_stop hr]
  · rename_i h1
    rw [if_neg h1]
    split at h
    · rename_i h2
      rw [if_pos h2]
      cases hn : num s with
      | none => rw [hn] at h; cases h
      | some p =>
        obtain ⟨m', n'⟩ := p
        rw [hn] at h
        cases h
        rw [num_stop hn hr]
        rfl
    · rename_i h2
      rw [if_neg h2]
      split at h
      · cases h
      · rename_i h3
        cases h
        have e : sgn (s.take (sgn s) ++ r) = sgn s := by
          cases s with
          | nil => exact absurd rfl hs
          | cons c t =>
            unfold sgn at h3 ⊢
            by_cases h4 : hd (c :: t) = 45 ∧ hd (c :: t).tail = 62
            · rw [if_pos h4]
              cases t with
              | nil => exact absurd h4.2 (by simp [hd])
              | cons d t => rw [if_pos (show hd ((c :: d :: t).take 2 ++ r) = 45 ∧ hd ((c :: d :: t).take 2 ++ r).tail = 62 from h4)]
            · rw [if_neg h4] at h3 ⊢
              by_cases h5 : mark (hd (c :: t)) = true
              · rw [if_pos h5]
                have h6 : c ≠ 45 := by intro e; subst e; simp [mark, hd] at h5
                rw [if_neg (show ¬ (hd ((c :: t).take 1 ++ r) = 45 ∧ hd ((c :: t).take 1 ++ r).tail = 62) from fun hx => h6 hx.1), if_pos (show mark (hd ((c :: t).take 1 ++ r)) = true from h5)]
              · rw [if_neg h5] at h3; exact absurd rfl h3
        rw [e, if_neg h3]
theorem one_head {s : List UInt8} {p : Nat × Nat × Nat} (h : one s = some p) : skip false s = s := by
  cases s with
  | nil => rfl
  | cons c t =>
    have h1 : c ≠ 35 := by intro e; subst e; simp [one, hd, letter, digit, sgn, mark] at h
    have h2 : ¬ blank c = true := by
      intro e
      simp only [blank, Bool.or_eq_true, beq_iff_eq] at e
      rcases e with (e | e) | e <;> (subst e; simp [one, hd, letter, digit, sgn, mark] at h)
    rw [skip, if_neg h1, if_neg h2]
/-- A token that is read again wherever it stands. -/
structure Good (t : Tok) : Prop where
  len : 1 ≤ t.text.length
  n : t.n ≤ 1099511627776
  one : ∀ r, Stop r → one (t.text ++ r) = some (t.kind, t.text.length, t.n)
theorem toks_good : ∀ (f i : Nat) (s : List UInt8) (l : List Tok), s.length < f → toks i s = .ok l → ∀ t ∈ l, Good t
  | 0, _, _, _, h, _ => absurd h (Nat.not_lt_zero _)
  | f + 1, i, s, l, hf, h => by
    rw [toks_eq] at h
    split at h
    · cases h; intro t ht; cases ht
    · split at h
      · cases h
      · rename_i k m n h1
        split at h
        · cases h
        · rename_i hn
          obtain ⟨l2, h2, rfl⟩ := Res.cons_ok h
          have hm := one_len h1
          have hsl := skip_le false s
          have ht : (List.take m (skip false s)).length = m := by rw [List.length_take]; omega
          have ih := toks_good f _ _ _ (by rw [List.length_drop]; omega) h2
          intro t htm
          rcases List.mem_cons.1 htm with rfl | h3
          · exact ⟨by rw [ht]; exact hm.1, by show n ≤ _; omega, fun r hr => by show Lx.one (List.take m (skip false s) ++ r) = _; rw [one_stop h1 hr, ht]⟩
          · exact ih t h3
def join : List (List UInt8) → List UInt8
  | [] => []
  | [x] => x
  | x :: y :: r => x ++ 32 :: join (y :: r)
def Tok.key (t : Tok) : Nat × List UInt8 × Nat := (t.kind, t.text, t.n)
theorem toks_good_app {t : Tok} (g : Good t) (i : Nat) (r : List UInt8) (hr : Stop r) : toks i (t.text ++ r) = (toks (i + t.text.length) r).cons ⟨t.kind, t.text, t.n, i⟩ := by
  have h1 := g.one r hr
  have h2 := one_head h1
  have hl := g.len
  have hn := g.n
  rw [toks_eq, h2, if_neg (by intro e; have := congrArg List.length e; rw [List.length_append, List.length_nil] at this; omega), h1]
  simp only []
  rw [if_neg (by omega), Nat.sub_self, Nat.add_zero, List.drop_left, List.take_left]
theorem toks_join : ∀ (l : List Tok) (i : Nat), (∀ t ∈ l, Good t) → ∃ m, toks i (join (l.map (·.text))) = .ok m ∧ m.map Tok.key = l.map Tok.key
  | [], i, _ => ⟨[], toks_gap i rfl, rfl⟩
  | [t], i, h => by
    have := toks_good_app (h t (by simp)) i [] stop_nil
    rw [List.append_nil, toks_gap (i + t.text.length) rfl] at this
    exact ⟨_, this, rfl⟩
  | t :: u :: r, i, h => by
    obtain ⟨m, h1, h2⟩ := toks_join (u :: r) (i + t.text.length + 1) (fun x hx => h x (by simp at hx ⊢; exact .inr hx))
    have h3 := toks_good_app (h t (by simp)) i (32 :: join ((u :: r).map (·.text))) (stop_blank _)
    have h4 : toks (i + t.text.length) (32 :: join ((u :: r).map (·.text))) = toks (i + t.text.length + 1) (join ((u :: r).map (·.text))) := by
      rw [toks_skip _ (show skip false (32 :: join ((u :: r).map (·.text))) = skip false (join ((u :: r).map (·.text))) by rw [skip, if_neg (by decide), if_pos (by decide)]) (by simp)]
      congr 1
      simp
    rw [h4, h1] at h3
    exact ⟨_, h3, by rw [List.map_cons, h2]; rfl⟩
/-- The line and the column behind a text. -/
def spot : Nat × Nat → List UInt8 → Nat × Nat
  | p, [] => p
  | p, c :: r => spot (if c = 10 then (p.1 + 1, 1) else (p.1, p.2 + 1)) r
end Lx
end Go.Proofs.YtjijlepkcghmeaaDoor
