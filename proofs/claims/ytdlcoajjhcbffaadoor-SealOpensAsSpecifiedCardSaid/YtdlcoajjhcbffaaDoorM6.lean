/- SCode; SPack: what each of these parts proves stands ahead of it. -/
import Derived.Test.YtdlcoajjhcbffaaDoorZSeal
import Derived.Test.YtdlcoajjhcbffaaDoorM4
import Derived.Test.YtdlcoajjhcbffaaDoorZHUtil
import Derived.Test.YtdlcoajjhcbffaaDoorZEncB
import Derived.Test.YtdlcoajjhcbffaaDoorZWUtil
import Derived.Test.YtdlcoajjhcbffaaDoorZCUtil
import Derived.Test.YtdlcoajjhcbffaaDoorZSRefB
import Derived.Test.YtdlcoajjhcbffaaDoorZShelf
/- Package seal: its own helpers code, nonceOf, tagOf, split. Condition: the texts have at most 100000 bytes; the table of round constants reads as the program lays it. -/
namespace Go.Proofs.YtdlcoajjhcbffaaDoor
open Go.RowKit
namespace Seal
open Hash (Table tabj bcj GivesT mac mac_any sizeS convO)
open Wire (encStr bytes_any b1 lies_lit sv Made)

theorem join_empty (l : List (List UInt8)) : Lib.join l [] = l.flatten := by
  cases l with
  | nil => rfl
  | cons x r =>
    rw [Lib.join_cons, List.flatten_cons]
    unfold Lib.joinTail
    simp
theorem join_any (l : List (List UInt8)) (W : World) (bk n : Nat) (hn : n = l.length) (hl : n ≤ 100) (hx : l.flatten.length ≤ 1000000)
    (hc : ∀ (j : Nat) (x : List UInt8), l[j]? = some x → W.cell? ⟨bk, 0 + j, none⟩ = some (.string ⟨x.toArray⟩)) (hb : bk < W.heap.size) :
    Calls Tryd.prog 34 #[.slice (some ⟨bk, 0, none⟩) n n, .string ⟨#[]⟩] W (GivesT l.flatten W) := by
  subst hn
  have e1 : (l.map fun x => (⟨x.toArray⟩ : ByteArray)).map (·.data.toList) = l := by
    rw [List.map_map]
    exact List.map_id'' (fun _ => rfl) l
  have h := Tryd.strings_Join bk 0 l.length (l.map fun x => ⟨x.toArray⟩) ⟨#[]⟩ W (fun j x hx => by
    rw [List.getElem?_map] at hx
    cases hy : l[j]? with
    | none => rw [hy] at hx; cases hx
    | some y => rw [hy] at hx; cases hx; exact hc j y hy) hb (by rw [List.length_map]; omega) (by rw [List.length_map]; omega) (by
      rw [e1]
      show (Lib.join l []).length ≤ _
      rw [join_empty]; omega)
  rw [e1, List.length_map] at h
  have e2 : Lib.join l (⟨#[]⟩ : ByteArray).data.toList = l.flatten := join_empty l
  rw [e2] at h
  exact h

set_option maxRecDepth 100000 in
set_option maxHeartbeats 1000000 in
theorem code_any (key : List UInt8) (l : List (List UInt8)) (W : World) (bk n : Nat) (hn : n = l.length) (hl : n ≤ 100) (hx : l.flatten.length ≤ 1000000) (hk : key.length ≤ 400000)
    (hc : ∀ (j : Nat) (x : List UInt8), l[j]? = some x → W.cell? ⟨bk, 0 + j, none⟩ = some (.string ⟨x.toArray⟩)) (hb : bk < W.heap.size) (ht : Table 2 W) :
    Calls Tryd.prog 17 #[.string ⟨key.toArray⟩, .slice (some ⟨bk, 0, none⟩) n n] W (GivesT (mac key l.flatten) W) := by
  have E1 := Lib.hid (join_any l W bk n hn hl hx hc hb)
  have E2 := Lib.hid (fun W2 hT => mac_any key l.flatten W2 (by omega) (by omega) hT)
  clear hc hb hn
  generalize mac key l.flatten = M at E2 ⊢
  generalize l.flatten = Q at E1 E2 hx
  have T := ht
  clear ht
  go_enter Tryd.func17, Tryd.ntmps17
  go_wp2_with (first
    | (go_at_call 34; (with_reducible refine E1.out.mono ?_); rintro e w1 ⟨rfl, hb⟩; replace T := tabj T hb)
    | (go_at_call 33; (with_reducible refine (E2.out _ T).mono ?_); rintro e w2 ⟨rfl, hb2⟩))
  go_ret
  exact ⟨rfl, bcj hb hb2⟩

/-- The parts stand in a block made for the call. -/
theorem code_lit (key : List UInt8) (l : List (List UInt8)) (cs : Array Value) (n : Nat) (hcs : cs = (l.map sv).toArray) (hn : n = l.length) (hl : n ≤ 100) (hx : l.flatten.length ≤ 1000000) (hk : key.length ≤ 400000) (w : World) (ht : Table 2 w) :
    Calls Tryd.prog 17 #[.string ⟨key.toArray⟩, .slice (some ⟨w.heap.size, 0, none⟩) n n] (w.alloc (.cells cs 9)) (GivesT (mac key l.flatten) w) := by
  subst hn
  have h := lies_lit w cs 9 (l.map sv) hcs (by rw [List.length_map]; unfold maxLen; omega)
  have hbw := b1 w (.cells cs 9)
  have hT := tabj ht hbw
  refine (code_any key l _ w.heap.size l.length rfl hl hx hk (fun j x hj => ?_) (by simp) hT).mono fun e w' ⟨he, hb⟩ => ⟨he, bcj hbw hb⟩
  obtain ⟨b, o, e, _, hcell⟩ := h.cells (by
    rw [List.length_map]
    exact Nat.lt_of_le_of_lt (Nat.zero_le j) (by
      rcases Nat.lt_or_ge j l.length with hlt | hge
      · exact hlt
      · rw [List.getElem?_eq_none hge] at hj; cases hj))
  cases e
  exact hcell j (sv x) (by rw [List.getElem?_map, hj]; rfl)

end Seal
end Go.Proofs.YtdlcoajjhcbffaaDoor

/- Package seal: the nonce, the tag, the parts of a blob, and Keys. Condition: the texts have at most 100000 bytes; the table of round constants reads as the program lays it. -/
namespace Go.Proofs.YtdlcoajjhcbffaaDoor
open Go.RowKit
namespace Seal
open Hash (Table tabj bcj GivesT mac sizeS convO)
open Wire (encStr bytes_any b1 sv Made)

theorem flat3 (a b c : List UInt8) : [a, b, c].flatten = a ++ b ++ c := by simp
theorem flat4 (a b c d : List UInt8) : [a, b, c, d].flatten = a ++ b ++ c ++ d := by simp

set_option maxRecDepth 100000 in
set_option maxHeartbeats 1000000 in
theorem nonceOf_any (m ad text : List UInt8) (w : World) (hm : m.length ≤ 400000) (ha : ad.length ≤ 100000) (hx : text.length ≤ 100000) (ht : Table 2 w) :
    Calls Tryd.prog 19 #[.string ⟨m.toArray⟩, .string ⟨ad.toArray⟩, .string ⟨text.toArray⟩] w (GivesT (nonceOf m ad text) w) := by
  have hel := encStr_length ad (by omega)
  have E1 : Hid (∀ W, Calls Tryd.prog 38 #[.string ⟨ad.toArray⟩] W (Made W (encStr ad).length (encStr ad))) := Lib.hid (fun W => bytes_any ad W (by omega))
  have E2 : Hid (∀ W, Table 2 W → Calls Tryd.prog 17 #[.string ⟨m.toArray⟩, .slice (some ⟨W.heap.size, 0, none⟩) 3 3] (W.alloc (.cells #[.string ⟨#[110, 111, 110, 99, 101]⟩, .string ⟨(encStr ad).toArray⟩, .string ⟨text.toArray⟩] 9)) (GivesT (mac m (nonceIn ad text)) W)) :=
    Lib.hid (fun W hT => by
      have h := code_lit m [nonceL, encStr ad, text] #[.string ⟨#[110, 111, 110, 99, 101]⟩, .string ⟨(encStr ad).toArray⟩, .string ⟨text.toArray⟩] 3 rfl rfl (by omega) (by rw [flat3]; simp only [List.length_append, nonceL, List.length_cons, List.length_nil]; omega) hm W hT
      rw [flat3] at h
      exact h)
  have hml := mac_length m (nonceIn ad text)
  unfold nonceOf
  have hsl : ∀ W : World, (Instr.slice 9 (.string ⟨(mac m (nonceIn ad text)).toArray⟩) none (some (.int .i64 12)) none).run Tryd.prog W = .ok (.string ⟨((mac m (nonceIn ad text)).take 12).toArray⟩) W := fun W => Cha.take_to _ _ 12 (by omega) rfl W
  generalize mac m (nonceIn ad text) = M at E2 hsl ⊢
  generalize M.take 12 = M12 at hsl ⊢
  generalize encStr ad = EA at E1 E2 hel
  have T := ht
  clear ht hml hm ha
  go_enter Tryd.func19, Tryd.ntmps19
  go_wp2_with (first
    | (go_at_call 38; (with_reducible refine (E1.out _).mono ?_); rintro e w1 ⟨g, cap, rfl, hown, hb⟩; have hcv := convO hown rfl; replace T := tabj T hb)
    | (go_at_call 17; (with_reducible refine (E2.out _ T).mono ?_); rintro e w2 ⟨rfl, hb2⟩))
  go_ret
  exact ⟨rfl, bcj hb hb2⟩

set_option maxRecDepth 100000 in
set_option maxHeartbeats 1000000 in
theorem tagOf_any (m n ad c : List UInt8) (w : World) (hm : m.length ≤ 400000) (hn : n.length ≤ 100000) (ha : ad.length ≤ 100000) (hx : c.length ≤ 100000) (ht : Table 2 w) :
    Calls Tryd.prog 21 #[.string ⟨m.toArray⟩, .string ⟨n.toArray⟩, .string ⟨ad.toArray⟩, .string ⟨c.toArray⟩] w (GivesT (tagOf m n ad c) w) := by
  have hel := encStr_length ad (by omega)
  have E1 : Hid (∀ W, Calls Tryd.prog 38 #[.string ⟨ad.toArray⟩] W (Made W (encStr ad).length (encStr ad))) := Lib.hid (fun W => bytes_any ad W (by omega))
  have E2 : Hid (∀ W, Table 2 W → Calls Tryd.prog 17 #[.string ⟨m.toArray⟩, .slice (some ⟨W.heap.size, 0, none⟩) 4 4] (W.alloc (.cells #[.string ⟨#[116, 97, 103]⟩, .string ⟨n.toArray⟩, .string ⟨(encStr ad).toArray⟩, .string ⟨c.toArray⟩] 9)) (GivesT (mac m (tagIn n ad c)) W)) :=
    Lib.hid (fun W hT => by
      have h := code_lit m [tagL, n, encStr ad, c] #[.string ⟨#[116, 97, 103]⟩, .string ⟨n.toArray⟩, .string ⟨(encStr ad).toArray⟩, .string ⟨c.toArray⟩] 4 rfl rfl (by omega) (by rw [flat4]; simp only [List.length_append, tagL, List.length_cons, List.length_nil]; omega) hm W hT
      rw [flat4] at h
      exact h)
  have hml := mac_length m (tagIn n ad c)
  unfold tagOf
  have hsl : ∀ W : World, (Instr.slice 9 (.string ⟨(mac m (tagIn n ad c)).toArray⟩) none (some (.int .i64 16)) none).run Tryd.prog W = .ok (.string ⟨((mac m (tagIn n ad c)).take 16).toArray⟩) W := fun W => Cha.take_to _ _ 16 (by omega) rfl W
  generalize mac m (tagIn n ad c) = M at E2 hsl ⊢
  generalize M.take 16 = M12 at hsl ⊢
  generalize encStr ad = EA at E1 E2 hel
  have T := ht
  clear ht hml hm ha
  go_enter Tryd.func21, Tryd.ntmps21
  go_wp2_with (first
    | (go_at_call 38; (with_reducible refine (E1.out _).mono ?_); rintro e w1 ⟨g, cap, rfl, hown, hb⟩; have hcv := convO hown rfl; replace T := tabj T hb)
    | (go_at_call 17; (with_reducible refine (E2.out _ T).mono ?_); rintro e w2 ⟨rfl, hb2⟩))
  go_ret
  exact ⟨rfl, bcj hb hb2⟩

/-- Three texts are returned; the memory that was there is as it was. -/
def Gives3 (a b c : List UInt8) (w : World) (e : Ending) (w' : World) : Prop := e = .returned (.tuple #[.string ⟨a.toArray⟩, .string ⟨b.toArray⟩, .string ⟨c.toArray⟩]) ∧ Below w.heap.size w w'

set_option maxRecDepth 100000 in
set_option maxHeartbeats 1000000 in
theorem split_any (b : List UInt8) (w : World) (hb28 : 28 ≤ b.length) (hbl : b.length ≤ 90000) :
    Calls Tryd.prog 25 #[.string ⟨b.toArray⟩] w (Gives3 (part1 b) (part2 b) (part3 b) w) := by
  have hsb := sizeS b
  have s1 : ∀ W : World, (Instr.slice 9 (.string ⟨b.toArray⟩) none (some (.int .i64 12)) none).run Tryd.prog W = .ok (.string ⟨(part1 b).toArray⟩) W := fun W => Cha.take_to _ _ 12 (by omega) rfl W
  have s2 : ∀ W : World, (Instr.slice 9 (.string ⟨b.toArray⟩) (some (.int .i64 12)) (some (.int .i64 ((b.length : Int) - 16))) none).run Tryd.prog W = .ok (.string ⟨(part2 b).toArray⟩) W := fun W => by
    have := mid_of b (part2 b) 12 (b.length - 16) (by omega) (by omega) rfl W
    rwa [show ((b.length - 16 : Nat) : Int) = (b.length : Int) - 16 by omega] at this
  have s3 : ∀ W : World, (Instr.slice 9 (.string ⟨b.toArray⟩) (some (.int .i64 ((b.length : Int) - 16))) none none).run Tryd.prog W = .ok (.string ⟨(part3 b).toArray⟩) W := fun W => by
    have := Cha.drop_from b (part3 b) (b.length - 16) (by omega) rfl W
    rwa [show ((b.length - 16 : Nat) : Int) = (b.length : Int) - 16 by omega] at this
  generalize part1 b = P1 at s1 ⊢
  generalize part2 b = P2 at s2 ⊢
  generalize part3 b = P3 at s3 ⊢
  go_enter Tryd.func25, Tryd.ntmps25
  go_wp2
  have Y : Below w.heap.size w w.drew := (Below.refl _ _).drew
  refine QHeld.start (fun W => Below w.heap.size w W) (by kernel_rfl) ?_
  revert Y
  generalize World.drew _ = w4
  intro Y
  (refine QHeld.val (by kernel_rfl) (fun _ _ _ _ h => h) (by rfl) Y ⟨_, fun W hW => (by go_simp; with_reducible rfl), ?_⟩; try simp only [Act.put, List.setIfInBounds_toArray, List.set_cons_zero, List.set_cons_succ])
  (refine QHeld.val (by kernel_rfl) (fun _ _ _ _ h => h) (by rfl) Y ⟨_, fun W hW => (by go_simp; with_reducible rfl), ?_⟩; try simp only [Act.put, List.setIfInBounds_toArray, List.set_cons_zero, List.set_cons_succ])
  (refine QHeld.val (by kernel_rfl) (fun _ _ _ _ h => h) (by rfl) Y ⟨_, fun W hW => (by go_simp; with_reducible rfl), ?_⟩; try simp only [Act.put, List.setIfInBounds_toArray, List.set_cons_zero, List.set_cons_succ])
  (refine QHeld.val (by kernel_rfl) (fun _ _ _ _ h => h) (by rfl) Y ⟨_, fun W hW => (by go_simp; with_reducible rfl), ?_⟩; try simp only [Act.put, List.setIfInBounds_toArray, List.set_cons_zero, List.set_cons_succ])
  (refine QHeld.val (by kernel_rfl) (fun _ _ _ _ h => h) (by rfl) Y ⟨_, fun W hW => (by go_simp; with_reducible rfl), ?_⟩; try simp only [Act.put, List.setIfInBounds_toArray, List.set_cons_zero, List.set_cons_succ])
  (refine QHeld.val (by kernel_rfl) (fun _ _ _ _ h => h) (by rfl) Y ⟨_, fun W hW => (by go_simp; with_reducible rfl), ?_⟩; try simp only [Act.put, List.setIfInBounds_toArray, List.set_cons_zero, List.set_cons_succ])
  (refine QHeld.val (by kernel_rfl) (fun _ _ _ _ h => h) (by rfl) Y ⟨_, fun W hW => (by go_simp; with_reducible rfl), ?_⟩; try simp only [Act.put, List.setIfInBounds_toArray, List.set_cons_zero, List.set_cons_succ])
  (refine QHeld.val (by kernel_rfl) (fun _ _ _ _ h => h) (by rfl) Y ⟨_, fun W hW => (by go_simp; with_reducible rfl), ?_⟩; try simp only [Act.put, List.setIfInBounds_toArray, List.set_cons_zero, List.set_cons_succ])
  (refine QHeld.val (by kernel_rfl) (fun _ _ _ _ h => h) (by rfl) Y ⟨_, fun W hW => (by go_simp; with_reducible rfl), ?_⟩; try simp only [Act.put, List.setIfInBounds_toArray, List.set_cons_zero, List.set_cons_succ])
  (refine QHeld.val (by kernel_rfl) (fun _ _ _ _ h => h) (by rfl) Y ⟨_, fun W hW => (by go_simp; with_reducible rfl), ?_⟩; try simp only [Act.put, List.setIfInBounds_toArray, List.set_cons_zero, List.set_cons_succ])
  (refine QHeld.val (by kernel_rfl) (fun _ _ _ _ h => h) (by rfl) Y ⟨_, fun W hW => (by go_simp; with_reducible rfl), ?_⟩; try simp only [Act.put, List.setIfInBounds_toArray, List.set_cons_zero, List.set_cons_succ])
  refine QHeld.stop (by kernel_rfl) ?_
  go_wp2
  go_ret3
  exact ⟨rfl, Y⟩

set_option maxRecDepth 100000 in
set_option maxHeartbeats 1000000 in
theorem keys_ok (key : List UInt8) (w : World) (hk : key.length = 32) (ht : Table 2 w) :
    Calls Tryd.prog 10 #[.string ⟨key.toArray⟩] w (GivesK (ek key) (mk key) 0 w) := by
  have hsz := sizeS key
  rw [hk] at hsz
  have E1 : Hid (∀ W, Table 2 W → Calls Tryd.prog 17 #[.string ⟨key.toArray⟩, .slice (some ⟨W.heap.size, 0, none⟩) 1 1] (W.alloc (.cells #[.string ⟨#[101, 110, 99]⟩] 9)) (GivesT (ek key) W)) := Lib.hid (fun W hT => code_lit key [encL] #[.string ⟨#[101, 110, 99]⟩] 1 rfl rfl (by omega) (by decide) (by omega) W hT)
  have E2 : Hid (∀ W, Table 2 W → Calls Tryd.prog 17 #[.string ⟨key.toArray⟩, .slice (some ⟨W.heap.size, 0, none⟩) 1 1] (W.alloc (.cells #[.string ⟨#[109, 97, 99]⟩] 9)) (GivesT (mk key) W)) := Lib.hid (fun W hT => code_lit key [macL] #[.string ⟨#[109, 97, 99]⟩] 1 rfl rfl (by omega) (by decide) (by omega) W hT)
  generalize ek key = E at E1 ⊢
  generalize mk key = M at E2 ⊢
  have T := ht
  have Z := Below.refl w.heap.size w
  clear hk ht
  go_enter Tryd.func10, Tryd.ntmps10
  go_wp2_with (first
    | (go_at_call 17; (with_reducible refine (E1.out _ T).mono ?_); rintro e w1 ⟨rfl, hb⟩; replace T := tabj T hb; replace Z := bcj Z hb; clear hb)
    | (go_at_call 17; (with_reducible refine (E2.out _ T).mono ?_); rintro e w2 ⟨rfl, hb⟩; replace T := tabj T hb; replace Z := bcj Z hb; clear hb))
  go_ret3
  exact ⟨rfl, Z⟩
set_option maxHeartbeats 400000 in
theorem keys_err (key : List UInt8) (w : World) (hk : ¬ key.length = 32) :
    Calls Tryd.prog 10 #[.string ⟨key.toArray⟩] w (GivesK [] [] 1 w) := by
  have hsz := sizeS key
  have hk2 : ¬ (key.length : Int) = 32 := by omega
  go_enter Tryd.func10, Tryd.ntmps10
  go_wp2
  go_ret3
  exact ⟨rfl, Below.refl _ _⟩

end Seal
end Go.Proofs.YtdlcoajjhcbffaaDoor

