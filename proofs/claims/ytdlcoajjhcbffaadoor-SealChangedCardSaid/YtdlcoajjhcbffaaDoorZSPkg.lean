/- What the package's and the reference's Keys, Seal and Open answer, as one; the statements' memory. The package's contracts are a hypothesis here. -/
import Derived.Test.YtdlcoajjhcbffaaDoorZSRefB
import Derived.Test.YtdlcoajjhcbffaaDoorZSEx
import Derived.Test.YtdlcoajjhcbffaaDoorZSFew
namespace Go.Proofs.YtdlcoajjhcbffaaDoor
open Go.RowKit
namespace Seal
open Hash (Table tabj bcj GivesT mac sizeS)
open Cha (GivesE)
open Wire (b1 lies_lit sv total Lies)

def keysR (key : List UInt8) : List UInt8 × List UInt8 × Nat := if key.length = 32 then (ek key, mk key, 0) else ([], [], 1)
def sealR (key ad text : List UInt8) : List UInt8 × Nat := if key.length = 32 then (sealed key ad text, 0) else ([], 1)

theorem refKeys_any (key : List UInt8) (W : World) (ht : Table 0 W) : Calls Tryd.prog 11 #[.string ⟨key.toArray⟩] W (GivesK (keysR key).1 (keysR key).2.1 (keysR key).2.2 W) := by
  unfold keysR
  by_cases h : key.length = 32
  · rw [if_pos h]; exact refKeys_ok key W h ht
  · rw [if_neg h]; exact refKeys_err key W h
theorem refSeal_any (key ad text : List UInt8) (W : World) (ha : ad.length ≤ 90000) (hx : text.length ≤ 90000) (ht : Table 0 W) : Calls Tryd.prog 13 #[.string ⟨key.toArray⟩, .string ⟨ad.toArray⟩, .string ⟨text.toArray⟩] W (GivesE (sealR key ad text).1 (sealR key ad text).2 W) := by
  unfold sealR
  by_cases h : key.length = 32
  · rw [if_pos h]; exact refSeal_ok key ad text W h ha hx ht
  · rw [if_neg h]; exact refSeal_err key ad text W h
theorem openR_long {key ad b : List UInt8} (hk : key.length = 32) (hb : 28 ≤ b.length) : (openR key ad b).1 = (match opened key ad b with | some t => t | none => []) ∧ (openR key ad b).2 = (match opened key ad b with | some _ => 0 | none => 8) := by
  unfold openR
  rw [if_neg (by omega), if_neg (by omega)]
  cases opened key ad b <;> exact ⟨rfl, rfl⟩
theorem openR_key {key ad b : List UInt8} (hk : ¬ key.length = 32) : openR key ad b = ([], 1) := by unfold openR; rw [if_pos hk]
theorem openR_short {key ad b : List UInt8} (hk : key.length = 32) (hb : b.length < 28) : openR key ad b = ([], 5) := by unfold openR; rw [if_neg (by omega), if_pos hb]
theorem refOpen_any (key ad b : List UInt8) (W : World) (ha : ad.length ≤ 90000) (hx : b.length ≤ 90000) (ht : Table 0 W) : Calls Tryd.prog 15 #[.string ⟨key.toArray⟩, .string ⟨ad.toArray⟩, .string ⟨b.toArray⟩] W (GivesE (openR key ad b).1 (openR key ad b).2 W) := by
  by_cases h : key.length = 32
  · by_cases h2 : b.length < 28
    · rw [openR_short h h2]; exact refOpen_short key ad b W h ha h2 ht
    · rw [(openR_long h (by omega)).1, (openR_long h (by omega)).2]; exact refOpen_long key ad b W h ha (by omega) hx ht
  · rw [openR_key h]; exact refOpen_key key ad b W h

/-- What the package answers. -/
structure Pkg : Prop where
  keys : ∀ (key : List UInt8) (W : World), Table 2 W → Calls Tryd.prog 10 #[.string ⟨key.toArray⟩] W (GivesK (keysR key).1 (keysR key).2.1 (keysR key).2.2 W)
  sealS : ∀ (key ad text : List UInt8) (W : World), ad.length ≤ 90000 → text.length ≤ 90000 → Table 2 W → Calls Tryd.prog 12 #[.string ⟨key.toArray⟩, .string ⟨ad.toArray⟩, .string ⟨text.toArray⟩] W (GivesE (sealR key ad text).1 (sealR key ad text).2 W)
  openS : ∀ (key ad b : List UInt8) (W : World), ad.length ≤ 90000 → b.length ≤ 90000 → Table 2 W → Calls Tryd.prog 14 #[.string ⟨key.toArray⟩, .string ⟨ad.toArray⟩, .string ⟨b.toArray⟩] W (GivesE (openR key ad b).1 (openR key ad b).2 W)
  rep32 : ∀ W : World, Calls Tryd.prog 16 #[.string ⟨#[107]⟩, .int .i64 32] W (GivesT exK W)
  rep27 : ∀ W : World, Calls Tryd.prog 16 #[.string ⟨#[120]⟩, .int .i64 27] W (GivesT (List.replicate 27 120) W)

/-- Both tables are there, and what was there is as it was. -/
structure T2 (w W : World) : Prop where
  rt : Table 2 W
  ct : Table 0 W
  bel : Below w.heap.size w W
theorem T2.on {w W W2 : World} (h : T2 w W) (hb : Below W.heap.size W W2) : T2 w W2 := ⟨tabj h.rt hb, tabj h.ct hb, bcj h.bel hb⟩
theorem T2.new {w W : World} (h : T2 w W) (o : Obj) : T2 w (W.alloc o) := h.on (b1 _ _)

theorem few_lit (l : List (List UInt8)) (w : World) (hl : l.length ≤ 100) (ht : total l ≤ 4611686018427387904) (cs : Array Value) (hc : cs = (l.map sv).toArray) (n : Nat) (hn : n = l.length) :
    Calls Tryd.prog 8 #[.slice (some ⟨w.heap.size, 0, none⟩) n n] (w.alloc (.cells cs 9)) (fun e w' => e = .returned (.bool (decide (total l ≤ 3000))) ∧ Below w.heap.size w w') := by
  subst hn
  have h := lies_lit w cs 9 (l.map sv) hc (by rw [List.length_map]; unfold maxLen; omega)
  rw [List.length_map] at h
  exact (few_any l l.length l.length _ _ h ht).mono fun e w' ⟨he, hw⟩ => ⟨he, by subst hw; exact b1 _ _⟩
theorem eqT (a : List UInt8) (W : World) : (Op.equalIn 10000 9 (.string ⟨a.toArray⟩) (.string ⟨a.toArray⟩)).run Tryd.prog W = .ok true W := by rw [eqS]; simp
theorem eqF {a b : List UInt8} (h : ¬ a = b) (W : World) : (Op.equalIn 10000 9 (.string ⟨a.toArray⟩) (.string ⟨b.toArray⟩)).run Tryd.prog W = .ok false W := by rw [eqS, decide_eq_false h]

def Yes (w : World) (e : Ending) (w' : World) : Prop := e = .returned (.bool true) ∧ Below w.heap.size w w'

set_option maxRecDepth 100000 in
set_option maxHeartbeats 2000000 in
theorem sanity_any (P : Pkg) (w : World) (h : T2 w w) : Calls Tryd.prog 9 #[] w (Yes w) := by
  have E1 := Lib.hid P.rep32
  have E2 := Lib.hid P.rep27
  have F1 : Hid (∀ W, Table 2 W → Calls Tryd.prog 12 #[.string ⟨exK.toArray⟩, .string ⟨#[97]⟩, .string ⟨#[116, 101, 120, 116]⟩] W (GivesE exS 0 W)) := Lib.hid (fun W hT => by
    have := P.sealS exK [97] exT W (by decide) (by decide) hT
    rwa [show sealR exK [97] exT = (exS, 0) by unfold sealR; rw [if_pos (by decide), ex_sealed]] at this)
  have F2 : Hid (∀ W, Table 2 W → Calls Tryd.prog 14 #[.string ⟨exK.toArray⟩, .string ⟨#[97]⟩, .string ⟨exS.toArray⟩] W (fun e w' => e = .returned (.tuple #[.string ⟨#[116, 101, 120, 116]⟩, .int .i64 0]) ∧ Below W.heap.size W w')) := Lib.hid (fun W hT => by
    have := P.openS exK [97] exS W (by decide) (by decide) hT
    rw [(openR_long (by decide) (by decide)).1, (openR_long (by decide) (by decide)).2, ex_opened] at this
    exact this)
  have F3 : Hid (∀ W, Table 2 W → Calls Tryd.prog 14 #[.string ⟨exK.toArray⟩, .string ⟨#[98]⟩, .string ⟨exS.toArray⟩] W (GivesE [] 8 W)) := Lib.hid (fun W hT => by
    have := P.openS exK [98] exS W (by decide) (by decide) hT
    rwa [(openR_long (by decide) (by decide)).1, (openR_long (by decide) (by decide)).2, ex_other] at this)
  have F4 : Hid (∀ W, Table 2 W → Calls Tryd.prog 14 #[.string ⟨exK.toArray⟩, .string ⟨#[97]⟩, .string ⟨(List.replicate 27 (120 : UInt8)).toArray⟩] W (GivesE [] 5 W)) := Lib.hid (fun W hT => by
    have := P.openS exK [97] (List.replicate 27 120) W (by decide) (by decide) hT
    rwa [openR_short (by decide) (by decide)] at this)
  have F5 : Hid (∀ W, Table 2 W → Calls Tryd.prog 12 #[.string ⟨(exK.drop 1).toArray⟩, .string ⟨#[97]⟩, .string ⟨#[]⟩] W (GivesE [] 1 W)) := Lib.hid (fun W hT => by
    have := P.sealS (exK.drop 1) [97] [] W (by decide) (by decide) hT
    rwa [show sealR (exK.drop 1) [97] [] = ([], 1) by unfold sealR; rw [if_neg (by decide)]] at this)
  have F6 : Hid (∀ W, Table 2 W → Calls Tryd.prog 10 #[.string ⟨exK.toArray⟩] W (GivesK ekK mkK 0 W)) := Lib.hid (fun W hT => by
    have := P.keys exK W hT
    rwa [show keysR exK = (ekK, mkK, 0) by unfold keysR; rw [if_pos (by decide), exEk, exMk]] at this)
  have F7 : Hid (∀ W, Table 0 W → Calls Tryd.prog 13 #[.string ⟨exK.toArray⟩, .string ⟨#[97]⟩, .string ⟨#[116, 101, 120, 116]⟩] W (GivesE exS 0 W)) := Lib.hid (fun W hT => by
    have := refSeal_any exK [97] exT W (by decide) (by decide) hT
    rwa [show sealR exK [97] exT = (exS, 0) by unfold sealR; rw [if_pos (by decide), ex_sealed]] at this)
  have hsl : ∀ W : World, (Instr.slice 9 (.string ⟨exK.toArray⟩) (some (.int .i64 1)) none none).run Tryd.prog W = .ok (.string ⟨(exK.drop 1).toArray⟩) W := fun W => Cha.drop_from exK (exK.drop 1) 1 (by decide) rfl W
  have q1 := eqF ex_keys
  have hne := ex_keys
  have q2 := eqT exS
  have z1 : (⟨exS.toArray⟩ : ByteArray).size = 32 := by rw [sizeS]; rfl
  have z2 : (⟨ekK.toArray⟩ : ByteArray).size = 32 := by rw [sizeS]; rfl
  have z3 : (⟨mkK.toArray⟩ : ByteArray).size = 32 := by rw [sizeS]; rfl
  generalize exK.drop 1 = K1 at F5 hsl
  generalize exK = K at E1 F1 F2 F3 F4 F6 F7 hsl
  generalize exS = S at F1 F2 F3 F7 q2 z1
  generalize ekK = A at F6 q1 z2 hne
  generalize mkK = B at F6 q1 z3 hne
  generalize List.replicate 27 (120 : UInt8) = X27 at E2 F4
  have Y := h
  clear P h
  go_enter Tryd.func9, Tryd.ntmps9
  go_wp2_with (first
    | (go_at_call 16; (with_reducible refine (E1.out _).mono ?_); rintro e w1 ⟨rfl, hb⟩; replace Y := Y.on hb; clear hb)
    | (go_at_call 12; (with_reducible refine (F1.out _ Y.rt).mono ?_); rintro e w2 ⟨rfl, hb⟩; replace Y := Y.on hb; clear hb)
    | (go_at_call 14; (with_reducible refine (F2.out _ Y.rt).mono ?_); rintro e w3 ⟨rfl, hb⟩; replace Y := Y.on hb; clear hb)
    | (go_at_call 14; (with_reducible refine (F3.out _ Y.rt).mono ?_); rintro e w4 ⟨rfl, hb⟩; replace Y := Y.on hb; clear hb)
    | (go_at_call 16; (with_reducible refine (E2.out _).mono ?_); rintro e w5 ⟨rfl, hb⟩; replace Y := Y.on hb; clear hb)
    | (go_at_call 14; (with_reducible refine (F4.out _ Y.rt).mono ?_); rintro e w6 ⟨rfl, hb⟩; replace Y := Y.on hb; clear hb)
    | (go_at_call 12; (with_reducible refine (F5.out _ Y.rt).mono ?_); rintro e w7 ⟨rfl, hb⟩; replace Y := Y.on hb; clear hb)
    | (go_at_call 10; (with_reducible refine (F6.out _ Y.rt).mono ?_); rintro e w8 ⟨rfl, hb⟩; replace Y := Y.on hb; clear hb)
    | (go_at_call 13; (with_reducible refine (F7.out _ Y.ct).mono ?_); rintro e w9 ⟨rfl, hb⟩; replace Y := Y.on hb; clear hb))
  have hq : (!A == B) = true := by simp [hne]
  go_ret
  exact ⟨congrArg (fun b => Ending.returned (Value.bool b)) hq, Y.bel⟩

end Seal
end Go.Proofs.YtdlcoajjhcbffaaDoor
