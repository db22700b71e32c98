/- The end of a message: the padding, and what the last block holds. Mathematics only. -/
import Derived.Test.YtoenkckoomfgeaaDoorHStr
namespace Go.Proofs.YtoenkckoomfgeaaDoor
open Go.RowKit
namespace Hash

theorem lenBytes_length (n : Nat) : (lenBytes n).length = 8 := rfl
theorem pad_eq (m : List UInt8) : pad m = (m ++ [128]) ++ (zeros (gap m.length) ++ lenBytes (8 * m.length)) := by simp [pad]

theorem fin_near (m : List UInt8) (h : (m ++ [128]).length % 64 ≤ 56) :
    comp (blocks (m ++ [128]) ((m ++ [128]).length / 64)) ((full (m ++ [128]) []).take 56 ++ lenBytes (8 * m.length)) = blocks (pad m) ((pad m).length / 64) := by
  have hL : (m ++ [128]).length = m.length + 1 := by simp
  have hp := pad_eq m
  obtain ⟨M, hM⟩ : ∃ M, M = m ++ [128] := ⟨_, rfl⟩
  rw [← hM] at h hL hp ⊢
  have hgap : gap m.length = 56 - M.length % 64 := by unfold gap; omega
  rw [hgap] at hp
  have hlen : (pad m).length / 64 = M.length / 64 + 1 := by
    rw [hp, List.length_append, List.length_append, zeros_length, lenBytes_length]; omega
  have ht : (full M []).take 56 = tail M ++ zeros (56 - M.length % 64) := by
    unfold full
    rw [List.take_append, List.take_of_length_le (by rw [tail_length]; omega), tail_length]
    simp [zeros]
  have hd : ((pad m).drop (64 * (M.length / 64))).take 64 = tail M ++ zeros (56 - M.length % 64) ++ lenBytes (8 * m.length) := by
    rw [hp, List.drop_append_of_le_length (by omega)]
    rw [List.take_of_length_le (by rw [List.length_append, List.length_drop, List.length_append, zeros_length, lenBytes_length]; omega)]
    simp [tail]
  rw [hlen, ht]
  simp only [blocks]
  rw [hd, hp, blocks_append _ _ _ (by omega)]

theorem fin_far (m : List UInt8) (h : 56 < (m ++ [128]).length % 64) :
    comp (comp (blocks (m ++ [128]) ((m ++ [128]).length / 64)) (full (m ++ [128]) [])) ((zeros 64).take 56 ++ lenBytes (8 * m.length)) = blocks (pad m) ((pad m).length / 64) := by
  have hL : (m ++ [128]).length = m.length + 1 := by simp
  have hp := pad_eq m
  obtain ⟨M, hM⟩ : ∃ M, M = m ++ [128] := ⟨_, rfl⟩
  rw [← hM] at h hL hp ⊢
  have hgap : gap m.length = (64 - M.length % 64) + 56 := by unfold gap; omega
  have hz : zeros (gap m.length) = zeros (64 - M.length % 64) ++ zeros 56 := by rw [hgap]; exact (List.replicate_append_replicate (n := 64 - M.length % 64) (m := 56)).symm
  rw [hz] at hp
  have hlen : (pad m).length / 64 = M.length / 64 + 1 + 1 := by
    rw [hp, List.length_append, List.length_append, List.length_append, zeros_length, zeros_length, lenBytes_length]; omega
  have h1 : ((pad m).drop (64 * (M.length / 64))).take 64 = full M [] := by
    rw [hp, List.drop_append_of_le_length (by omega), List.append_assoc, ← List.append_assoc]
    rw [List.take_append_of_le_length (by rw [List.length_append, List.length_drop, zeros_length]; omega), List.take_of_length_le (by rw [List.length_append, List.length_drop, zeros_length]; omega)]
    simp [full, tail]
  have h2 : ((pad m).drop (64 * (M.length / 64 + 1))).take 64 = zeros 56 ++ lenBytes (8 * m.length) := by
    have e : pad m = (M ++ zeros (64 - M.length % 64)) ++ (zeros 56 ++ lenBytes (8 * m.length)) := by rw [hp]; simp
    have el : (M ++ zeros (64 - M.length % 64)).length = 64 * (M.length / 64 + 1) := by rw [List.length_append, zeros_length]; omega
    rw [e, ← el, List.drop_left, List.take_of_length_le (by rw [List.length_append, zeros_length, lenBytes_length]; omega)]
  rw [hlen]
  simp only [blocks]
  rw [h1, h2]
  congr 2
  rw [hp, blocks_append _ _ _ (by omega)]

/-- The bytes of the block under way, of which the last i have been set. -/
def endAt (rest lb : List UInt8) (i : Nat) : List UInt8 := rest.take (64 - i) ++ lb.drop (8 - i)
theorem endAt_zero (rest lb : List UInt8) (hr : rest.length = 64) (hl : lb.length = 8) : endAt rest lb 0 = rest := by
  unfold endAt
  rw [List.drop_of_length_le (by omega), List.append_nil, List.take_of_length_le (by omega)]
theorem endAt_eight (rest lb : List UInt8) : endAt rest lb 8 = rest.take 56 ++ lb := by simp [endAt]
theorem endAt_length (rest lb : List UInt8) (i : Nat) (hr : rest.length = 64) (hl : lb.length = 8) (hi : i ≤ 8) : (endAt rest lb i).length = 64 := by
  unfold endAt
  rw [List.length_append, List.length_take, List.length_drop]; omega
theorem endAt_set (rest lb : List UInt8) (i : Nat) (hr : rest.length = 64) (hl : lb.length = 8) (hi : i < 8) : (endAt rest lb i).set (63 - i) (lb.getD (7 - i) 0) = endAt rest lb (i + 1) := by
  unfold endAt
  have h1 : rest.take (64 - i) = rest.take (63 - i) ++ [rest[63 - i]'(by omega)] := by
    rw [show 64 - i = (63 - i) + 1 by omega, List.take_add_one, List.getElem?_eq_getElem (by omega)]; rfl
  have h2 : lb.drop (8 - (i + 1)) = lb.getD (7 - i) 0 :: lb.drop (8 - i) := by
    rw [show 8 - (i + 1) = 7 - i by omega, List.drop_eq_getElem_cons (by omega), List.getD_eq_getElem?_getD, List.getElem?_eq_getElem (by omega), show 7 - i + 1 = 8 - i by omega]; rfl
  have hl2 : (rest.take (63 - i)).length = 63 - i := by rw [List.length_take]; omega
  rw [h1, h2, List.append_assoc, List.set_append_right _ _ (by omega), hl2, Nat.sub_self, show 64 - (i + 1) = 63 - i by omega]
  rfl
theorem lb_at (n : Nat) : ∀ i : Nat, i < 8 → (((lenBytes (8 * n)).getD (7 - i) 0).toNat : Int) = (((low64 n : Int) * 8 % 18446744073709551616) / 2 ^ (8 * i)) % 256
  | 0, _ => by simp [lenBytes, u8, low64]; omega
  | 1, _ => by simp [lenBytes, u8, low64]; omega
  | 2, _ => by simp [lenBytes, u8, low64]; omega
  | 3, _ => by simp [lenBytes, u8, low64]; omega
  | 4, _ => by simp [lenBytes, u8, low64]; omega
  | 5, _ => by simp [lenBytes, u8, low64]; omega
  | 6, _ => by simp [lenBytes, u8, low64]; omega
  | 7, _ => by simp [lenBytes, u8, low64]; omega
  | n + 8, h => by omega

/-- The bytes of words, of which the first i have been written. -/
def outAt (hs : List Nat) (i : Nat) : List UInt8 := (hs.take i).flatMap wordBytes ++ zeros (32 - 4 * i)
theorem flat4 : ∀ l : List Nat, (l.flatMap wordBytes).length = 4 * l.length
  | [] => rfl
  | x :: l => by simp [List.flatMap_cons, flat4 l, wordBytes]; omega
theorem outAt_length (hs : List Nat) (i : Nat) (hl : hs.length = 8) (hi : i ≤ 8) : (outAt hs i).length = 32 := by
  unfold outAt
  rw [List.length_append, flat4, List.length_take, zeros_length]; omega
theorem outAt_set (hs : List Nat) (i : Nat) (hl : hs.length = 8) (hi : i < 8) :
    ((((outAt hs i).set (4 * i) (u8 (hs.getD i 0 / 16777216))).set (4 * i + 1) (u8 (hs.getD i 0 / 65536))).set (4 * i + 2) (u8 (hs.getD i 0 / 256))).set (4 * i + 3) (u8 (hs.getD i 0)) = outAt hs (i + 1) := by
  unfold outAt
  have h1 : zeros (32 - 4 * i) = 0 :: 0 :: 0 :: 0 :: zeros (32 - 4 * (i + 1)) := by
    rw [show 32 - 4 * i = (32 - 4 * (i + 1)) + 1 + 1 + 1 + 1 by omega]; rfl
  have h2 : ((hs.take i).flatMap wordBytes).length = 4 * i := by rw [flat4, List.length_take]; omega
  have h3 : hs.take (i + 1) = hs.take i ++ [hs.getD i 0] := by
    rw [List.take_add_one, List.getD_eq_getElem?_getD, List.getElem?_eq_getElem (by omega)]; rfl
  rw [h1, h3, List.flatMap_append]
  generalize (hs.take i).flatMap wordBytes = P at h2
  generalize hs.getD i 0 = v
  rw [List.set_append_right _ _ (by omega), List.set_append_right _ _ (by omega), List.set_append_right _ _ (by omega), List.set_append_right _ _ (by omega), h2]
  simp [wordBytes, Nat.add_sub_cancel_left]
theorem outAt_all (hs : List Nat) (hl : hs.length = 8) : outAt hs 8 = hs.flatMap wordBytes := by
  unfold outAt
  rw [List.take_of_length_le (by omega)]
  simp [zeros]

end Hash
end Go.Proofs.YtoenkckoomfgeaaDoor
