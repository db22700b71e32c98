/- Sealed texts as mathematics: the nonce, the tag, what a blob opens to; a sealed text is opened, and what is opened was sealed. No condition but lengths. -/
import Derived.Test.YtdlcoajjhcbffaaDoorM3
import Derived.Test.YtdlcoajjhcbffaaDoorZCha
namespace Go.Proofs.YtdlcoajjhcbffaaDoor
namespace Seal
open Hash (mac sha_length)
open Wire (encStr)
open Cha (xor xor_length xor_twice)

def encL : List UInt8 := [101, 110, 99]
def macL : List UInt8 := [109, 97, 99]
def nonceL : List UInt8 := [110, 111, 110, 99, 101]
def tagL : List UInt8 := [116, 97, 103]
def nonceIn (ad text : List UInt8) : List UInt8 := nonceL ++ encStr ad ++ text
def tagIn (n ad c : List UInt8) : List UInt8 := tagL ++ n ++ encStr ad ++ c
def nonceOf (m ad text : List UInt8) : List UInt8 := (mac m (nonceIn ad text)).take 12
def tagOf (m n ad c : List UInt8) : List UInt8 := (mac m (tagIn n ad c)).take 16
def ek (key : List UInt8) : List UInt8 := mac key encL
def mk (key : List UInt8) : List UInt8 := mac key macL
def cipherOf (key n text : List UInt8) : List UInt8 := xor (ek key) 1 n text
def sealed (key ad text : List UInt8) : List UInt8 :=
  nonceOf (mk key) ad text ++ cipherOf key (nonceOf (mk key) ad text) text ++ tagOf (mk key) (nonceOf (mk key) ad text) ad (cipherOf key (nonceOf (mk key) ad text) text)
/-- The three parts of a blob. -/
def part1 (b : List UInt8) : List UInt8 := b.take 12
def part2 (b : List UInt8) : List UInt8 := (b.take (b.length - 16)).drop 12
def part3 (b : List UInt8) : List UInt8 := b.drop (b.length - 16)
/-- What a blob of at least 28 bytes opens to, if to anything. -/
def opened (key ad b : List UInt8) : Option (List UInt8) :=
  if part3 b = tagOf (mk key) (part1 b) ad (part2 b) ∧ nonceOf (mk key) ad (cipherOf key (part1 b) (part2 b)) = part1 b then some (cipherOf key (part1 b) (part2 b)) else none

theorem mac_length (k t : List UInt8) : (mac k t).length = 32 := by unfold mac; exact sha_length _
theorem nonce_length (m ad t : List UInt8) : (nonceOf m ad t).length = 12 := by unfold nonceOf; rw [List.length_take, mac_length]; rfl
theorem tag_length (m n ad c : List UInt8) : (tagOf m n ad c).length = 16 := by unfold tagOf; rw [List.length_take, mac_length]; rfl
theorem ek_length (k : List UInt8) : (ek k).length = 32 := mac_length _ _
theorem mk_length (k : List UInt8) : (mk k).length = 32 := mac_length _ _
theorem cipher_length (k n t : List UInt8) : (cipherOf k n t).length = t.length := xor_length _ _ _ _
theorem cipher_twice (k n t : List UInt8) : cipherOf k n (cipherOf k n t) = t := xor_twice _ _ _ _
theorem sealed_length (key ad text : List UInt8) : (sealed key ad text).length = text.length + 28 := by
  simp only [sealed, List.length_append, nonce_length, tag_length, cipher_length]
  omega

theorem parts {n c t : List UInt8} (hn : n.length = 12) (ht : t.length = 16) : part1 (n ++ c ++ t) = n ∧ part2 (n ++ c ++ t) = c ∧ part3 (n ++ c ++ t) = t := by
  have hl : (n ++ c ++ t).length - 16 = (n ++ c).length := by simp only [List.length_append]; omega
  refine ⟨?_, ?_, ?_⟩
  · unfold part1; rw [List.append_assoc, ← hn, List.take_left]
  · unfold part2; rw [hl, List.take_left, ← hn, List.drop_left]
  · unfold part3; rw [hl, List.drop_left]
theorem whole {b : List UInt8} (h : 28 ≤ b.length) : b = part1 b ++ part2 b ++ part3 b := by
  unfold part1 part2 part3
  have h1 : b.take 12 = (b.take (b.length - 16)).take 12 := by rw [List.take_take, Nat.min_eq_left (by omega)]
  rw [h1, List.take_append_drop, List.take_append_drop]
theorem part1_length {b : List UInt8} (h : 28 ≤ b.length) : (part1 b).length = 12 := by unfold part1; rw [List.length_take]; omega
theorem part2_length {b : List UInt8} (h : 28 ≤ b.length) : (part2 b).length = b.length - 28 := by unfold part2; rw [List.length_drop, List.length_take]; omega
theorem part3_length {b : List UInt8} (h : 28 ≤ b.length) : (part3 b).length = 16 := by unfold part3; rw [List.length_drop]; omega

theorem opened_sealed (key ad text : List UInt8) : opened key ad (sealed key ad text) = some text := by
  obtain ⟨h1, h2, h3⟩ := parts (c := cipherOf key (nonceOf (mk key) ad text) text) (nonce_length (mk key) ad text) (tag_length (mk key) (nonceOf (mk key) ad text) ad (cipherOf key (nonceOf (mk key) ad text) text))
  unfold opened sealed
  rw [h1, h2, h3, cipher_twice, if_pos ⟨rfl, rfl⟩]
theorem sealed_opened {key ad b text : List UInt8} (hb : 28 ≤ b.length) (h : opened key ad b = some text) : b = sealed key ad text ∧ text.length = b.length - 28 := by
  unfold opened at h
  split at h
  · rename_i hc
    obtain ⟨h1, h2⟩ := hc
    have ht : cipherOf key (part1 b) (part2 b) = text := Option.some.inj h
    have hl : text.length = b.length - 28 := by rw [← ht, cipher_length, part2_length hb]
    refine ⟨?_, hl⟩
    rw [ht] at h2
    have h4 : cipherOf key (part1 b) text = part2 b := by rw [← ht, cipher_twice]
    unfold sealed
    rw [h2, h4, ← h1]
    exact whole hb
  · cases h
theorem sealed_inj {key ad text ad2 text2 : List UInt8} (h : sealed key ad text = sealed key ad2 text2) : text = text2 := by
  obtain ⟨h1, h2, _⟩ := parts (c := cipherOf key (nonceOf (mk key) ad text) text) (nonce_length (mk key) ad text) (tag_length (mk key) (nonceOf (mk key) ad text) ad (cipherOf key (nonceOf (mk key) ad text) text))
  obtain ⟨k1, k2, _⟩ := parts (c := cipherOf key (nonceOf (mk key) ad2 text2) text2) (nonce_length (mk key) ad2 text2) (tag_length (mk key) (nonceOf (mk key) ad2 text2) ad2 (cipherOf key (nonceOf (mk key) ad2 text2) text2))
  have e1 : nonceOf (mk key) ad text = nonceOf (mk key) ad2 text2 := by
    rw [← h1, ← k1]; exact congrArg part1 h
  have e2 : cipherOf key (nonceOf (mk key) ad text) text = cipherOf key (nonceOf (mk key) ad2 text2) text2 := by
    have e : part2 (sealed key ad text) = part2 (sealed key ad2 text2) := congrArg part2 h
    unfold sealed at e
    rwa [h2, k2] at e
  rw [← cipher_twice key (nonceOf (mk key) ad text) text, e2, e1, cipher_twice]

end Seal
end Go.Proofs.YtdlcoajjhcbffaaDoor
