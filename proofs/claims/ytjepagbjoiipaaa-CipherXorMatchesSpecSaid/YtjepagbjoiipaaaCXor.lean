/- A block as a text, and a text XORed with blocks: Block and Xor, of the package cipher. Conditions: those that each theorem names. -/
import Derived.Test.YtjepagbjoiipaaaCBlock
namespace Go.Proofs.Ytjepagbjoiipaaa
open Go.RowKit
namespace Cha

/-- A text and an error number are returned; the memory that was there is as it was. -/
def GivesE (s : List UInt8) (n : Nat) (w : World) (e : Ending) (w' : World) : Prop := e = .returned (.tuple #[.string ⟨s.toArray⟩, .int .i64 (n : Int)]) ∧ Below w.heap.size w w'
/-- A state lies in block g. -/
structure HasS (w W : World) (g : Nat) (l : List Nat) : Prop where
  arr : Arr W g 16 (l.map wv)
  below : Below w.heap.size w W
theorem hasS_new {w W : World} (hb : Below w.heap.size w W) (l : List Nat) (hl : l.length = 16) (t : TypeId) : HasS w ((W.alloc (.cells z16 t)).setCells W.heap.size 0 (l.map wv).toArray.toList) W.heap.size l := by
  have h := arr_new W z16 t
  rw [show z16.size = 16 from rfl] at h
  exact ⟨h.over (by rw [List.length_map]; exact hl), bcj hb (((Below.refl _ _).alloc (Nat.le_refl _) _).trans (below_cells (Nat.le_refl _) _ _ _))⟩
theorem fresh16W (W : World) (l : List Nat) (hl : l.length = 16) (t : TypeId) : (W.alloc (.cells z16 t)).there W.heap.size 0 (l.map wv).toArray.size := by
  have h := (arr_new W z16 t).there
  rw [show z16.size = 16 from rfl] at h
  rw [show (l.map wv).toArray.size = 16 by rw [List.size_toArray, List.length_map]; exact hl]
  exact h
theorem fresh64W (W : World) (bs : List UInt8) (hl : bs.length = 64) (t : TypeId) : (W.alloc (.cells z64 t)).there W.heap.size 0 (bs.map bv).toArray.size := by
  have h := (arr_new W z64 t).there
  rw [z64_size] at h
  rw [show (bs.map bv).toArray.size = 64 by rw [List.size_toArray, List.length_map]; exact hl]
  exact h
theorem new64 {W : World} (bs : List UInt8) (hl : bs.length = 64) (t : TypeId) : Arr ((W.alloc (.cells z64 t)).setCells W.heap.size 0 (bs.map bv).toArray.toList) W.heap.size 64 (bs.map bv) ∧ Below W.heap.size W ((W.alloc (.cells z64 t)).setCells W.heap.size 0 (bs.map bv).toArray.toList) := by
  have h := arr_new W z64 t
  rw [z64_size] at h
  exact ⟨h.over (by rw [List.length_map]; exact hl), ((Below.refl _ _).alloc (Nat.le_refl _) _).trans (below_cells (Nat.le_refl _) _ _ _)⟩
theorem convC {W : World} {g n : Nat} {l : List UInt8} (h : Arr W g n (l.map bv)) (c : Nat) : (convert 42 9 (.slice (some ⟨g, 0, none⟩) n c)).run Try.prog W = .ok (.string ⟨l.toArray⟩) W := by
  have hn : l.length = n := by have := h.len; simpa using this
  have := run_convert_bytes_arg (P := Try.prog) (w := W) 42 5 Try.underlying42 Try.underlying5 g 0 n c (l.map fun c => (c.toNat : Int)) (by simpa using hn) ?_ 9 Try.underlying9
  · rw [this, strOf]; rfl
  · intro i hi
    have hx : l[i]? = some (l[i]'(by omega)) := List.getElem?_eq_getElem _
    have hc := h.cells i (bv (l[i]'(by omega))) (by rw [List.getElem?_map, hx]; rfl)
    rw [Nat.zero_add, hc]
    simp [List.getD, hx, bv]

set_option maxRecDepth 100000 in
set_option maxHeartbeats 1000000 in
theorem blockT_ok (key nonce : List UInt8) (ctr : Nat) (w : World) (hk : key.length = 32) (hn : nonce.length = 12) (hc : ctr < 4294967296) :
    Calls Try.prog 11 #[.string ⟨key.toArray⟩, .int .u32 (ctr : Int), .string ⟨nonce.toArray⟩] w (GivesE (blk (start key ctr nonce)) 0 w) := by
  have E1 := Lib.hid (fun W => state_ok key nonce ctr W hk hn)
  have HO := Lib.hid (start_ok key nonce hc)
  have E2 := Lib.hid (fun W => block_any (start key ctr nonce) W HO.out)
  have HL := Lib.hid HO.out.len
  have HB := Lib.hid (blk_length HO.out)
  have hz := zero16
  have hz2 := zero64
  have Z := Below.refl w.heap.size w
  generalize start key ctr nonce = l at *
  generalize blk l = bs at *
  clear hk hn hc
  go_enter Try.func11, Try.ntmps11
  go_wp2_with (first
    | (go_at_call 9; (with_reducible refine (E1.out _).mono ?_); rintro e w1 ⟨rfl, hb⟩; replace Z := bcj Z hb; clear hb)
    | ((with_reducible refine at_store 23 (.tmp 8) (.tmp 16) rfl ?_); refine wpList_store_mid rfl 23 (.tmp 8) (.tmp 16) rfl w1.heap.size 0 (l.map wv).toArray rfl rfl (fresh16W w1 l HL.out _) (i16A HL.out) (words_one _) ?_; refine gen_world (Pq := fun W => HasS w W w1.heap.size l) (G := fun W => wpList _ _ _ _ _ W) (hasS_new Z l HL.out _) ?_; intro w2 S2; clear Z)
    | ((with_reducible refine at_slot 21 rfl ?_); refine wpList_load_mid rfl 23 (.tmp 8) rfl w1.heap.size 0 rfl (l.map wv) _ S2.arr.range und16 rfl (i16 HL.out) ?_)
    | (go_at_call 21; (with_reducible refine (E2.out _).mono ?_); rintro e w3 ⟨rfl, hb⟩; have Z := bcj S2.below hb; clear hb S2)
    | ((with_reducible refine at_store 40 (.tmp 10) (.tmp 22) rfl ?_); refine wpList_store_mid rfl 40 (.tmp 10) (.tmp 22) rfl w3.heap.size 0 (bs.map bv).toArray rfl rfl (fresh64W w3 bs HB.out _) (i64A HB.out) (bytes_all _) ?_; have HN := new64 (W := w3) bs HB.out 40; refine gen_world (Pq := fun W => Arr W w3.heap.size 64 (bs.map bv) ∧ Below w.heap.size w W) (G := fun W => wpList _ _ _ _ _ W) ⟨HN.1, bcj Z HN.2⟩ ?_; rintro w4 ⟨A4, Z4⟩; clear Z HN; have hcv := convC A4 64))
  go_ret2
  exact ⟨rfl, Z4⟩

set_option maxRecDepth 100000 in
set_option maxHeartbeats 1000000 in
theorem blockT_err (key nonce : List UInt8) (ctr : Nat) (w : World) (h : ¬ (key.length = 32 ∧ nonce.length = 12)) :
    Calls Try.prog 11 #[.string ⟨key.toArray⟩, .int .u32 (ctr : Int), .string ⟨nonce.toArray⟩] w (GivesE [] 1 w) := by
  have E1 := Lib.hid (fun W => state_err key nonce ctr W h)
  have hz := zero16
  have Z := Below.refl w.heap.size w
  clear h
  go_enter Try.func11, Try.ntmps11
  go_wp2_with (first
    | (go_at_call 9; (with_reducible refine (E1.out _).mono ?_); rintro e w1 ⟨rfl, hb⟩; replace Z := bcj Z hb; clear hb)
    | ((with_reducible refine at_store 23 (.tmp 8) (.tmp 16) rfl ?_); refine wpList_store_mid rfl 23 (.tmp 8) (.tmp 16) rfl w1.heap.size 0 z16 rfl rfl (fresh16W w1 zN rfl _) (by kernel_rfl) (words_one zN) ?_; refine gen_world (Pq := fun W => HasS w W w1.heap.size zN) (G := fun W => wpList _ _ _ _ _ W) (hasS_new Z zN rfl _) ?_; intro w2 S2; clear Z))
  go_ret2
  exact ⟨rfl, S2.below⟩

end Cha
end Go.Proofs.Ytjepagbjoiipaaa
