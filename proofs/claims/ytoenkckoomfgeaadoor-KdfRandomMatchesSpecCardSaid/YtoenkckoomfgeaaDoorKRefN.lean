/- The reference of package kdf: its generator. Condition: the seed is of at most 100000 bytes; the table of the reference's constants reads as the program lays it. -/
import Derived.Test.YtoenkckoomfgeaaDoorKRef
import Derived.Test.YtoenkckoomfgeaaDoorQTail
namespace Go.Proofs.YtoenkckoomfgeaaDoor
open Go.RowKit
namespace Kdf
open Hash (Table tabj bcj GivesT sizeS Arr)
open Wire (encStr bv sv Lies)

/-- A text and a generator are returned; the memory that was there is as it was. -/
def GivesR (a s : List UInt8) (w : World) (e : Ending) (w' : World) : Prop := e = .returned (.tuple #[.string ⟨a.toArray⟩, .agg #[.string ⟨s.toArray⟩]]) ∧ Below w.heap.size w w'

theorem appS (a b : List UInt8) : (⟨a.toArray⟩ : ByteArray) ++ (⟨b.toArray⟩ : ByteArray) = ⟨(a ++ b).toArray⟩ := by
  apply ByteArray.ext
  simp

/-- The generator lies in the first new block, the result in the second. -/
structure NX (g : Nat) (w W : World) (s : List UInt8) : Prop where
  tab : Table g W
  bel : Below w.heap.size w W
  gen : Arr W w.heap.size 1 [.string ⟨s.toArray⟩]
  res : ∃ y, Arr W (w.heap.size + 1) 1 [y]
theorem NX.on {g : Nat} {w W W2 : World} {s : List UInt8} (h : NX g w W s) (hb : Below W.heap.size W W2) : NX g w W2 s := by
  obtain ⟨y, hy⟩ := h.res
  exact ⟨tabj h.tab hb, bcj h.bel hb, h.gen.below hb (h.gen.size (by omega)), y, hy.below hb (hy.size (by omega))⟩
theorem NX.cell {g : Nat} {w W : World} {s : List UInt8} (h : NX g w W s) : W.cell? ⟨w.heap.size, 0, none⟩ = some (.string ⟨s.toArray⟩) := (h.gen.at_ (i := 0) rfl).1
theorem nx_new {g : Nat} {w : World} (s : List UInt8) (y : Value) (t : TypeId) (h : Table g w) : NX g w ((w.alloc (.cells #[.string ⟨s.toArray⟩] t)).alloc (.cells #[y] t)).drew s := by
  have b1 := Wire.b1 w (.cells #[.string ⟨s.toArray⟩] t)
  have b2 := Wire.b1 (w.alloc (.cells #[.string ⟨s.toArray⟩] t)) (.cells #[y] t)
  have bd := Wire.bd ((w.alloc (.cells #[.string ⟨s.toArray⟩] t)).alloc (.cells #[y] t)) 1
  have a1 := Hash.arr_new w #[.string ⟨s.toArray⟩] t
  have a2 := Hash.arr_new (w.alloc (.cells #[.string ⟨s.toArray⟩] t)) #[y] t
  have a12 := a1.below b2 (a1.size (by simp))
  rw [show (w.alloc (.cells #[.string ⟨s.toArray⟩] t)).heap.size = w.heap.size + 1 by simp] at a2
  exact ⟨tabj (tabj (tabj h b1) b2) bd, bcj (bcj b1 b2) bd, a12.below bd (a12.size (by simp)), y, a2.below bd (a2.size (by simp))⟩

set_option maxRecDepth 100000 in
set_option maxHeartbeats 1000000 in
theorem refNext_any (s : List UInt8) (w : World) (hs : s.length ≤ 100000) (ht : Table 0 w) :
    Calls Tryd.prog 18 #[.agg #[.string ⟨s.toArray⟩]] w (GivesR (val s) (nxt s) w) := by
  have E1 : Hid (∀ W, Table 0 W → Calls Tryd.prog 12 #[.string ⟨s.toArray⟩, .string ⟨#[118, 97, 108, 117, 101]⟩, .slice none 0 0] W (GivesT (val s) W)) := Lib.hid (fun W hT => refDerive_none s valueL W (by omega) (by decide) hT)
  have E2 : Hid (∀ W, Table 0 W → Calls Tryd.prog 12 #[.string ⟨s.toArray⟩, .string ⟨#[115, 101, 101, 100]⟩, .slice none 0 0] W (GivesT (nxt s) W)) := Lib.hid (fun W hT => refDerive_none s seedL W (by omega) (by decide) hT)
  generalize val s = V at E1 ⊢
  generalize nxt s = S at E2 ⊢
  have Y := nx_new s (.string ⟨#[]⟩) 36 ht
  have EC := Lib.hid (fun W (h : NX 0 w W s) => h.cell)
  have E3 := Lib.hid (fun W (h : NX 0 w W s) => E1.out W h.tab)
  have E4 := Lib.hid (fun W (h : NX 0 w W s) => E2.out W h.tab)
  clear ht hs
  go_enter Tryd.func18, Tryd.ntmps18
  go_wp2
  refine QTail.region (C := fun W => NX 0 w W s) 8 (by kernel_rfl) (by kernel_rfl) Y ?_
  (refine wpQuiet_step (fun K hK => ?_); go_simp; refine ⟨_, fun _ _ => rfl, hK _ ?_⟩; clear hK K)
  (refine wpQuiet_step (fun K hK => ?_); go_simp; refine ⟨.string ⟨s.toArray⟩, fun W hW => ?_, hK _ ?_⟩; (rw [EC.out W hW]; exact ⟨rfl, rfl⟩); clear hK K)
  (refine wpQuiet_step (fun K hK => ?_); go_simp; refine ⟨_, fun W hW => (E3.out W hW).mono fun e w' ⟨he, hb⟩ => ⟨he, hW.on hb⟩, hK _ ?_⟩; clear hK K)
  (refine wpQuiet_step (fun K hK => ?_); go_simp; refine ⟨_, fun _ _ => rfl, hK _ ?_⟩; clear hK K)
  (refine wpQuiet_step (fun K hK => ?_); go_simp; refine ⟨.string ⟨s.toArray⟩, fun W hW => ?_, hK _ ?_⟩; (rw [EC.out W hW]; exact ⟨rfl, rfl⟩); clear hK K)
  (refine wpQuiet_step (fun K hK => ?_); go_simp; refine ⟨_, fun W hW => (E4.out W hW).mono fun e w' ⟨he, hb⟩ => ⟨he, hW.on hb⟩, hK _ ?_⟩; clear hK K)
  (refine wpQuiet_step (fun K hK => ?_); go_simp; refine ⟨_, fun _ _ => rfl, hK _ ?_⟩; clear hK K)
  (refine wpQuiet_step (fun K hK => ?_); go_simp; refine ⟨_, fun _ _ => rfl, hK _ ?_⟩; clear hK K)
  refine wpQuiet_nil ?_
  clear Y
  intro w2 Y
  obtain ⟨y, hy⟩ := Y.res
  refine wpList_store_mid rfl 36 (.tmp 3) (.tmp 10) rfl (w.heap.size + 1) 0 #[.string ⟨S.toArray⟩] rfl rfl hy.there (by kernel_rfl) (by simp [Value.oneCell']) ?_
  obtain ⟨he, hbe⟩ := Hash.arr_end (w := w) (wr := w2) (g := w.heap.size + 1) (xs := [.string ⟨S.toArray⟩]) 36 Y.bel (by omega) hy.there Tryd.underlying36 rfl (by kernel_rfl)
  have HE := Lib.hid he
  have HB := Lib.hid hbe
  clear he hbe hy Y
  go_wp2
  refine bodyPost_ret (v := .tuple #[.string ⟨V.toArray⟩, .agg #[.string ⟨S.toArray⟩]]) ?_ rfl ⟨rfl, HB.out⟩
  have := HE.out
  simp [results, Tryd.results18, asAddr, Act.put]
  rw [this]
  rfl

end Kdf
end Go.Proofs.YtoenkckoomfgeaaDoor
