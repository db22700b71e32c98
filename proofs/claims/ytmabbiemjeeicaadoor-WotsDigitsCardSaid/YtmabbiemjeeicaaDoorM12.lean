/- HInj; Kdf: what each of these parts proves stands ahead of it. -/
import Derived.Test.YtmabbiemjeeicaaDoorZEncB
import Derived.Test.YtmabbiemjeeicaaDoorM3
/- Encoded texts, one written after the other, say which texts they are. Mathematics; texts of at most 400 bytes. -/
namespace Go.Proofs.YtmabbiemjeeicaaDoor
namespace Hash
open Wire (encStr enc dec)

theorem enc_inj {n m : Int} {t r : List UInt8} (hn : -9223372036854775808 ≤ n ∧ n ≤ 9223372036854775807) (hm : -9223372036854775808 ≤ m ∧ m ≤ 9223372036854775807) (h : enc n ++ t = enc m ++ r) : n = m ∧ t = r := by
  have h1 := Wire.dec_enc hn t
  have h2 := Wire.dec_enc hm r
  rw [h] at h1
  have e := h1.symm.trans h2
  simp only [Except.ok.injEq, Prod.mk.injEq] at e
  obtain ⟨rfl, _⟩ := e
  exact ⟨rfl, List.append_cancel_left h⟩
theorem encStr_inj {s s' r r' : List UInt8} (hs : s.length ≤ 400) (hs' : s'.length ≤ 400) (h : encStr s ++ r = encStr s' ++ r') : s = s' ∧ r = r' := by
  have h2 : enc (s.length : Int) ++ (s ++ r) = enc (s'.length : Int) ++ (s' ++ r') := by simpa [encStr] using h
  obtain ⟨h3, h4⟩ := enc_inj (by omega) (by omega) h2
  exact List.append_inj h4 (by omega)
theorem flat_inj : ∀ (l l' : List (List UInt8)), (∀ s ∈ l, s.length ≤ 400) → (∀ s ∈ l', s.length ≤ 400) → l.flatMap encStr = l'.flatMap encStr → l = l'
  | [], [], _, _, _ => rfl
  | [], s :: l', _, _, h => by
    have := congrArg List.length h
    have h2 := Wire.enc_length (s.length : Int)
    rw [List.flatMap_cons, List.length_append] at this
    simp only [encStr, List.length_append, List.flatMap_nil, List.length_nil] at this
    omega
  | s :: l, [], _, _, h => by
    have := congrArg List.length h
    have h2 := Wire.enc_length (s.length : Int)
    rw [List.flatMap_cons, List.length_append] at this
    simp only [encStr, List.length_append, List.flatMap_nil, List.length_nil] at this
    omega
  | s :: l, s' :: l', h1, h2, h => by
    rw [List.flatMap_cons, List.flatMap_cons] at h
    obtain ⟨rfl, h3⟩ := encStr_inj (h1 s (List.mem_cons_self ..)) (h2 s' (List.mem_cons_self ..)) h
    rw [flat_inj l l' (fun t ht => h1 t (List.mem_cons_of_mem _ ht)) (fun t ht => h2 t (List.mem_cons_of_mem _ ht)) h3]

end Hash
end Go.Proofs.YtmabbiemjeeicaaDoor

/- Derived keys, paths and generators as mathematics: a path is split at any label; the bytes of a generator in parts; what is authenticated says what it is made of. No condition but lengths. -/
namespace Go.Proofs.YtmabbiemjeeicaaDoor
namespace Kdf
open Hash (mac sha_length flat_inj encStr_inj)
open Wire (encStr)

def input (label : List UInt8) (parts : List (List UInt8)) : List UInt8 := encStr label ++ parts.flatMap encStr
def derive (key label : List UInt8) (parts : List (List UInt8)) : List UInt8 := mac key (input label parts)
def path (key : List UInt8) : List (List UInt8) → List UInt8
  | [] => key
  | l :: r => path (derive key l []) r
def valueL : List UInt8 := [118, 97, 108, 117, 101]
def seedL : List UInt8 := [115, 101, 101, 100]
def val (s : List UInt8) : List UInt8 := derive s valueL []
def nxt (s : List UInt8) : List UInt8 := derive s seedL []
/-- The generator after k values; the first k values. -/
def after (s : List UInt8) : Nat → List UInt8
  | 0 => s
  | k + 1 => nxt (after s k)
def stream (s : List UInt8) : Nat → List UInt8
  | 0 => []
  | k + 1 => stream s k ++ val (after s k)
/-- How many values n bytes need. -/
def need (n : Nat) : Nat := (n + 31) / 32
def bytes (s : List UInt8) (n : Nat) : List UInt8 := (stream s (need n)).take n
/-- What Bytes answers. -/
def bytesR (s : List UInt8) (n : Int) : List UInt8 × List UInt8 := if n < 0 ∨ 8000 < n then ([], s) else (bytes s n.toNat, after s (need n.toNat))

theorem derive_length (k l : List UInt8) (p : List (List UInt8)) : (derive k l p).length = 32 := by unfold derive mac; exact sha_length _
theorem val_length (s : List UInt8) : (val s).length = 32 := derive_length _ _ _
theorem nxt_length (s : List UInt8) : (nxt s).length = 32 := derive_length _ _ _
theorem stream_length (s : List UInt8) (k : Nat) : (stream s k).length = 32 * k := by
  induction k with
  | zero => rfl
  | succ k ih => rw [stream, List.length_append, ih, val_length]; omega
theorem after_length {s : List UInt8} {b : Nat} (h : s.length ≤ b) (hb : 32 ≤ b) (k : Nat) : (after s k).length ≤ b := by
  cases k with
  | zero => exact h
  | succ k => rw [after, nxt_length]; exact hb
theorem path_append (k : List UInt8) (a b : List (List UInt8)) : path k (a ++ b) = path (path k a) b := by
  induction a generalizing k with
  | nil => rfl
  | cons x r ih => exact ih _
theorem path_snoc (k : List UInt8) (a : List (List UInt8)) (l : List UInt8) : path k (a ++ [l]) = derive (path k a) l [] := by rw [path_append]; rfl
theorem path_take {k : List UInt8} {a : List (List UInt8)} {i : Nat} {l : List UInt8} (h : a[i]? = some l) : path k (a.take (i + 1)) = derive (path k (a.take i)) l [] := by
  rw [List.take_add_one, h, Option.toList_some, path_snoc]
theorem path_split (k : List UInt8) (a : List (List UInt8)) (i : Nat) : path (path k (a.take i)) (a.drop i) = path k a := by rw [← path_append, List.take_append_drop]
theorem path_length {k : List UInt8} {b : Nat} (h : k.length ≤ b) (hb : 32 ≤ b) (a : List (List UInt8)) : (path k a).length ≤ b := by
  induction a generalizing k with
  | nil => exact h
  | cons x r ih => exact ih (by rw [derive_length]; exact hb)
theorem path_seeds (s : List UInt8) (k : Nat) : path s (List.replicate k seedL) = after s k := by
  induction k with
  | zero => rfl
  | succ k ih => rw [List.replicate_succ', path_snoc, ih]; rfl
theorem path_value (s : List UInt8) (k : Nat) : path s (List.replicate k seedL ++ [valueL]) = val (after s k) := by rw [path_snoc, path_seeds]; rfl
theorem after_add (s : List UInt8) (j k : Nat) : after (after s j) k = after s (j + k) := by
  induction k with
  | zero => rfl
  | succ k ih => rw [after, ih]; rfl
theorem stream_add (s : List UInt8) (j k : Nat) : stream s (j + k) = stream s j ++ stream (after s j) k := by
  induction k with
  | zero => simp [stream]
  | succ k ih => rw [← Nat.add_assoc, stream, ih, stream, after_add, List.append_assoc]
theorem need_add (j n : Nat) : need (32 * j + n) = j + need n := by unfold need; omega
theorem need_mul (j : Nat) : need (32 * j) = j := by unfold need; omega
theorem need_le (n : Nat) : n ≤ 32 * need n := by unfold need; omega
theorem need_step {n k : Nat} (h : 32 * k < n) : k < need n := by unfold need; omega
theorem need_stop {n k : Nat} (h : n ≤ 32 * k) (h2 : k = 0 ∨ 32 * (k - 1) < n) : k = need n := by unfold need; omega
theorem bytes_length (s : List UInt8) (n : Nat) : (bytes s n).length = n := by
  unfold bytes
  rw [List.length_take, stream_length]
  exact Nat.min_eq_left (need_le n)
theorem bytes_mul (s : List UInt8) (j : Nat) : bytes s (32 * j) = stream s j := by
  unfold bytes
  rw [need_mul, List.take_of_length_le (by rw [stream_length]; omega)]
theorem bytes_parts (s : List UInt8) (j n : Nat) : bytes s (32 * j) ++ bytes (after s j) n = bytes s (32 * j + n) := by
  rw [bytes_mul]
  unfold bytes
  rw [need_add, stream_add, List.take_append, List.take_of_length_le (l := stream s j) (by rw [stream_length]; omega), stream_length, Nat.add_sub_cancel_left]
theorem input_inj {l l2 : List UInt8} {p p2 : List (List UInt8)} (h1 : ∀ s ∈ l :: p, s.length ≤ 400) (h2 : ∀ s ∈ l2 :: p2, s.length ≤ 400) (h : input l p = input l2 p2) : l :: p = l2 :: p2 :=
  flat_inj (l :: p) (l2 :: p2) h1 h2 (by rw [List.flatMap_cons, List.flatMap_cons]; exact h)
theorem input_le {l : List UInt8} {p : List (List UInt8)} (h1 : l.length ≤ 400) (h2 : p.length ≤ 12) (h3 : ∀ s ∈ p, s.length ≤ 400) : (input l p).length ≤ 10000 := by
  have hs : ∀ s : List UInt8, s.length ≤ 400 → (encStr s).length ≤ 409 := by
    intro s h
    have := Wire.enc_length_le (n := (s.length : Int)) (by omega)
    show (Wire.enc (s.length : Int) ++ s).length ≤ _
    rw [List.length_append]; omega
  have hl : ∀ q : List (List UInt8), (∀ s ∈ q, s.length ≤ 400) → (q.flatMap encStr).length ≤ 409 * q.length := by
    intro q
    induction q with
    | nil => intro _; simp
    | cons s q ih =>
      intro h
      have h4 := hs s (h s (List.mem_cons_self ..))
      have h5 := ih (fun t ht => h t (List.mem_cons_of_mem _ ht))
      rw [List.flatMap_cons, List.length_append, List.length_cons]
      omega
  have h4 := hs l h1
  have h5 := hl p h3
  unfold input
  rw [List.length_append]
  omega

end Kdf
end Go.Proofs.YtmabbiemjeeicaaDoor

