/- ShaF; WoF: what each of these parts proves stands ahead of it. -/
import Derived.Test.YtmabbiemjeeicaaDoorZSha
import Derived.Test.YtmabbiemjeeicaaDoorZWoM
/- SHA-256 and HMAC for the kernel to evaluate: each step is forced. No condition. -/
namespace Go.Proofs.YtmabbiemjeeicaaDoor
namespace Hash
def blocksF (l : List UInt8) : Nat → List Nat
  | 0 => h0
  | n + 1 => compF (blocksF l n) ((l.drop (64 * n)).take 64)
theorem blocksF_eq (l : List UInt8) : ∀ n, blocksF l n = blocks l n
  | 0 => rfl
  | n + 1 => by simp only [blocksF, blocks, compF_eq, blocksF_eq l n]
def shaF (l : List UInt8) : List UInt8 := (blocksF (pad l) ((pad l).length / 64)).flatMap wordBytes
theorem shaF_eq (l : List UInt8) : shaF l = sha l := by simp only [shaF, sha, blocksF_eq]
def keyBlockF (key : List UInt8) (m : UInt8) : List UInt8 := (key ++ zeros (64 - key.length)).map (· ^^^ m)
def macF (key text : List UInt8) : List UInt8 := shaF (keyBlockF key 0x5c ++ shaF (keyBlockF key 0x36 ++ text))
theorem macF_eq (key text : List UInt8) (h : ¬ 64 < key.length) : macF key text = mac key text := by
  simp only [macF, mac, shaF_eq, keyBlock, keyBlockF, if_neg h]
theorem enc0 : Wire.enc 0 = [128] := by simp [Wire.enc, Wire.magn, Wire.digs_zero, Wire.head]
theorem enc1 : Wire.enc 1 = [129, 1] := by simp [Wire.enc, Wire.magn, Wire.digs_pos, Wire.digs_zero, Wire.head, Wire.flip]

end Hash
end Go.Proofs.YtmabbiemjeeicaaDoor

/- Chains for the kernel to evaluate: each value is forced. No condition. -/
namespace Go.Proofs.YtmabbiemjeeicaaDoor
namespace Wo
open Hash (ofDig ofIn sha shaF shaF_eq force force_eq macF macF_eq mac)
open Wire (enc encStr)

def seedL : List UInt8 := [115, 101, 101, 100]
/-- The value of a list of bytes, worked out first. -/
def forceL {α : Type} : List UInt8 → (List UInt8 → α) → α
  | [], k => k []
  | x :: r, k => force x.toNat fun n => forceL r fun r' => k (UInt8.ofNat n :: r')
theorem forceL_eq {α : Type} : ∀ (l : List UInt8) (k : List UInt8 → α), forceL l k = k l
  | [], _ => rfl
  | x :: r, k => by
    show force x.toNat (fun n => forceL r fun r' => k (UInt8.ofNat n :: r')) = _
    rw [force_eq, forceL_eq r]; simp
/-- A number up to 255. -/
def encF (n : Nat) : List UInt8 := if n = 0 then [128] else [129, UInt8.ofNat n]
theorem encF_eq {n : Nat} (h : n < 256) : encF n = enc (n : Int) := by
  unfold encF
  by_cases h0 : n = 0
  · subst h0; simp [Hash.enc0]
  · rw [if_neg h0]
    have e : n / 256 = 0 := by omega
    have hn : ¬ (n : Int) < 0 := by omega
    have hd : Wire.digs n = [UInt8.ofNat n] := by rw [Wire.digs_pos h0, e, Wire.digs_zero, Nat.mod_eq_of_lt h]; rfl
    simp [Wire.enc, Wire.magn, hn, hd, Wire.head, Wire.flip]
def strF (s : List UInt8) : List UInt8 := encF s.length ++ s
theorem strF_eq {s : List UInt8} (h : s.length < 256) : strF s = encStr s := by
  show encF s.length ++ s = enc (s.length : Int) ++ s
  rw [encF_eq h]
theorem encF_length (n : Nat) : (encF n).length ≤ 2 := by unfold encF; split <;> simp
def linkF (k h : Nat) (v : List UInt8) : List UInt8 := (shaF (4 :: (strF (encF k) ++ (strF (encF h) ++ strF v)))).take 16
theorem linkF_eq {k h : Nat} {v : List UInt8} (hk : k < 256) (hh : h < 256) (hv : v.length = 16) : linkF k h v = link k h v := by
  have l1 := encF_length k
  have l2 := encF_length h
  unfold linkF link ofDig
  rw [shaF_eq, strF_eq (by omega), strF_eq (by omega), strF_eq (by omega), encF_eq hk, encF_eq hh]
  have hi : ofIn 4 [enc (k : Int), enc (h : Int), v] = 4 :: (encStr (enc (k : Int)) ++ (encStr (enc (h : Int)) ++ encStr v)) := by
    show Hash.tagByte 4 :: (encStr (enc (k : Int)) ++ (encStr (enc (h : Int)) ++ (encStr v ++ []))) = _
    rw [List.append_nil]; rfl
  rw [hi]
def climbF (k a : Nat) (v : List UInt8) : Nat → List UInt8
  | 0 => v
  | n + 1 => forceL (climbF k a v n) fun u => linkF k (a + n) u
theorem climbF_eq {k a : Nat} {v : List UInt8} (hk : k < 256) (hv : v.length = 16) : ∀ {n : Nat}, a + n < 256 → climbF k a v n = climb k a v n
  | 0, _ => rfl
  | n + 1, h => by
    show forceL (climbF k a v n) (fun u => linkF k (a + n) u) = link k (a + n) (climb k a v n)
    rw [forceL_eq, climbF_eq hk hv (by omega), linkF_eq hk (by omega) (climb_length hv n)]
theorem advF_eq {k a b : Nat} {v : List UInt8} (h : k < 256 ∧ b < 241 ∧ a ≤ b ∧ v.length = 16) : climbF k a v (b - a) = adv k a b v := by
  obtain ⟨hk, hb, ha, hv⟩ := h
  exact climbF_eq hk hv (by omega)
def startF (k : Nat) : List UInt8 := (macF seedL (strF chainL ++ strF (encF k))).take 16
theorem startF_eq {k : Nat} (h : k < 256) : startF k = start seedL k := by
  have l1 := encF_length k
  unfold startF start Kdf.derive Kdf.input
  rw [macF_eq _ _ (by decide), strF_eq (by decide), strF_eq (by omega), encF_eq h]
  simp
/-- The digest of one long text. -/
def bigF (s : List UInt8) : List UInt8 := (shaF (5 :: 130 :: 2 :: 48 :: s)).take 16
theorem bigF_eq {s : List UInt8} (h : s.length = 560) : bigF s = ofDig 5 [s] := by
  have he : enc ((560 : Nat) : Int) = [130, 2, 48] := by simp [Wire.enc, Wire.magn, Wire.digs_pos, Wire.digs_zero, Wire.head, Wire.flip]
  have hi : ofIn 5 [s] = 5 :: 130 :: 2 :: 48 :: s := by
    show Hash.tagByte 5 :: (encStr s ++ []) = _
    rw [List.append_nil]
    show Hash.tagByte 5 :: (enc (s.length : Int) ++ s) = _
    rw [h, he]; rfl
  unfold bigF ofDig
  rw [shaF_eq, hi]

end Wo
end Go.Proofs.YtmabbiemjeeicaaDoor

