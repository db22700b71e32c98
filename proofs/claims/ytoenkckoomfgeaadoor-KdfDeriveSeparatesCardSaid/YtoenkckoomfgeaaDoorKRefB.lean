/- The reference of package kdf: Bytes. Condition: the seed is of at most 100000 bytes; the table of the reference's constants reads as the program lays it. -/
import Derived.Test.YtoenkckoomfgeaaDoorKRefN
namespace Go.Proofs.YtoenkckoomfgeaaDoor
open Go.RowKit
namespace Kdf
open Hash (Table tabj bcj GivesT sizeS Arr)
open Wire (encStr bv sv Lies)

theorem take_to (x y : List UInt8) (k : Nat) (hk : k ≤ x.length) (h : x.take k = y) (W : World) : (Instr.slice 9 (.string ⟨x.toArray⟩) none (some (.int .i64 (k : Int))) none).run Tryd.prog W = .ok (.string ⟨y.toArray⟩) W := by
  have h1 := run_slice_string_to_if (P := Tryd.prog) W 9 ⟨x.toArray⟩ .i64 (k : Int) Tryd.underlying9
  have hs := sizeS x
  rw [h1, ← h]
  simp [hs, hk]
  apply ByteArray.ext
  rw [ByteArray.data_extract]
  apply Array.toList_inj.1
  rw [Array.toList_extract, List.extract_eq_take_drop]
  simp
def txtLen : Value → Nat
  | .string b => b.size
  | _ => 0
/-- The generator that goes on lies in the third new block, the result in the second. -/
structure BX (g : Nat) (w W : World) (s : List UInt8) : Prop where
  old : g < w.heap.size
  tab : Table g W
  bel : Below w.heap.size w W
  gen : Arr W (w.heap.size + 1 + 1) 1 [.string ⟨s.toArray⟩]
  res : ∃ y, Arr W (w.heap.size + 1) 1 [y]
theorem BX.on {g : Nat} {w W W2 : World} {s : List UInt8} (h : BX g w W s) (hb : Below W.heap.size W W2) : BX g w W2 s := by
  obtain ⟨y, hy⟩ := h.res
  exact ⟨h.old, tabj h.tab hb, bcj h.bel hb, h.gen.below hb (h.gen.size (by omega)), y, hy.below hb (hy.size (by omega))⟩
theorem BX.cell {g : Nat} {w W : World} {s : List UInt8} (h : BX g w W s) : W.cell? ⟨w.heap.size + 1 + 1, 0, none⟩ = some (.string ⟨s.toArray⟩) := (h.gen.at_ (i := 0) rfl).1
theorem BX.put {g : Nat} {w W : World} {s : List UInt8} (h : BX g w W s) (t : List UInt8) : BX g w (W.setCells (w.heap.size + 1 + 1) 0 [.string ⟨t.toArray⟩]) t := by
  obtain ⟨y, hy⟩ := h.res
  have hb : Below w.heap.size W (W.setCells (w.heap.size + 1 + 1) 0 [.string ⟨t.toArray⟩]) := Hash.below_cells (by omega) _ _ _
  exact ⟨h.old, h.tab.below hb h.old, h.bel.trans hb, h.gen.over rfl, y, hy.aside (by omega) 0⟩
theorem bx_new {g : Nat} {w : World} (s : List UInt8) (x y : Value) (t : TypeId) (h : Table g w) : BX g w (((w.alloc (.cells #[x] t)).alloc (.cells #[y] t)).alloc (.cells #[.string ⟨s.toArray⟩] t)) s := by
  have b1 := Wire.b1 w (.cells #[x] t)
  have b2 := Wire.b1 (w.alloc (.cells #[x] t)) (.cells #[y] t)
  have b3 := Wire.b1 ((w.alloc (.cells #[x] t)).alloc (.cells #[y] t)) (.cells #[.string ⟨s.toArray⟩] t)
  have a2 := Hash.arr_new (w.alloc (.cells #[x] t)) #[y] t
  have a3 := Hash.arr_new ((w.alloc (.cells #[x] t)).alloc (.cells #[y] t)) #[.string ⟨s.toArray⟩] t
  have a23 := a2.below b3 (a2.size (by simp))
  rw [show (w.alloc (.cells #[x] t)).heap.size = w.heap.size + 1 by simp] at a23
  rw [show ((w.alloc (.cells #[x] t)).alloc (.cells #[y] t)).heap.size = w.heap.size + 1 + 1 by simp] at a3
  exact ⟨h.size, tabj (tabj (tabj h b1) b2) b3, bcj (bcj b1 b2) b3, a3, y, a23⟩

set_option maxRecDepth 100000 in
set_option maxHeartbeats 1000000 in
theorem refBytes_ok (s : List UInt8) (n : Nat) (w : World) (hs : s.length ≤ 100000) (hn : n ≤ 8000) (ht : Table 0 w) :
    Calls Tryd.prog 20 #[.agg #[.string ⟨s.toArray⟩], .int .i64 (n : Int)] w (GivesR (bytes s n) (after s (need n)) w) := by
  have y0 : ¬ (n : Int) < 0 := by omega
  have y1 : ¬ (8000 : Int) < (n : Int) := by omega
  have B0 := bx_new s (.string ⟨s.toArray⟩) (.string ⟨#[]⟩) 36 ht
  have HN : Hid (∀ k W, Table 0 W → Calls Tryd.prog 18 #[.agg #[.string ⟨(after s k).toArray⟩]] W (GivesR (val (after s k)) (after s (k + 1)) W)) := Lib.hid (fun k W hT => refNext_any (after s k) W (after_length hs (by omega) k) hT)
  have HS : Hid (∀ k, stream s (k + 1) = stream s k ++ val (after s k) ∧ (val (after s k)).length = 32) := Lib.hid (fun k => ⟨rfl, val_length _⟩)
  clear ht hs
  go_enter Tryd.func20, Tryd.ntmps20
  go_wp2
  go_loopw [6] (fun sv wr => ∃ (k : Nat) (X S : List UInt8), sv = .string ⟨X.toArray⟩ ∧ X = stream s k ∧ X.length = 32 * k ∧ S = after s k ∧ (k = 0 ∨ 32 * (k - 1) < n) ∧ BX 0 w wr S) (fun sv _ => n + 40 - txtLen sv)
  case atStart => exact ⟨0, [], s, rfl, rfl, rfl, rfl, .inl rfl, B0⟩
  case round =>
    clear B0
    obtain ⟨k, X, S, rfl, hX, hXl, hS, hk, hB⟩ := hrel
    have hsz := sizeS X
    by_cases hlt : 32 * k < n
    · obtain ⟨hst, hvl⟩ := HS.out k
      have HC := HN.out k
      rw [← hS] at HC hst hvl
      rw [← hX] at hst
      generalize val S = V at HC hst hvl
      obtain ⟨S2, hS2⟩ : ∃ S2, S2 = after s (k + 1) := ⟨_, rfl⟩
      rw [← hS2] at HC
      have HC := Lib.hid HC
      have HS2 := Lib.hid hS2
      have hap := appS X V
      obtain ⟨Y, hY⟩ : ∃ Y, Y = X ++ V := ⟨_, rfl⟩
      rw [← hY] at hap hst
      have hYl : Y.length = 32 * (k + 1) := by rw [hY, List.length_append]; omega
      have HXL := Lib.hid hXl
      have HST := Lib.hid hst
      have HYL := Lib.hid hYl
      have y2 : (X.length : Int) < (n : Int) := by omega
      have hc := hB.cell
      have x9 : X.length ≤ 8000 := by omega
      have v9 : V.length ≤ 32 := by omega
      have hsv := sizeS V
      clear hX hS hS2 hY hst hvl hYl hXl
      go_wp2_with (first
        | (go_at_call 18; (with_reducible refine (HC.out _ hB.tab).mono ?_); rintro e w1 ⟨rfl, hb1⟩; replace hB := hB.on hb1)
        | ((with_reducible refine Hash.at_store 36 (.tmp 7) (.tmp 30) rfl ?_); replace hB := hB.on (Wire.b1 w1 (.cells #[.string ⟨S2.toArray⟩] 36)); refine wpList_store_mid rfl 36 (.tmp 7) (.tmp 30) rfl (w.heap.size + 1 + 1) 0 #[.string ⟨S2.toArray⟩] rfl rfl hB.gen.there (by kernel_rfl) (by simp [Value.oneCell']) ?_; replace hB := hB.put S2; simp only [Act.put]))
      go_roundw
      case rel => exact ⟨k + 1, Y, S2, rfl, HST.out.symm, HYL.out, HS2.out, .inr (by omega), hB⟩
      case measure => simp only [txtLen, sizeS]; rw [HYL.out, HXL.out]; omega
    · have hkn : k = need n := need_stop (by omega) hk
      have y2 : ¬ (X.length : Int) < (n : Int) := by omega
      have hXn : X.take n = bytes s n := by rw [hX, hkn]; rfl
      have hsl : ∀ W : World, (Instr.slice 9 (.string ⟨X.toArray⟩) none (some (.int .i64 (n : Int))) none).run Tryd.prog W = .ok (.string ⟨(bytes s n).toArray⟩) W := fun W => take_to _ _ n (by omega) hXn W
      have HE : Hid (S = after s (need n)) := Lib.hid (by rw [hS, hkn])
      have Y := hB.on (Wire.bd wr 1)
      obtain ⟨R, hR⟩ : ∃ R, R = bytes s n := ⟨_, rfl⟩
      rw [← hR] at hsl
      have HRB := Lib.hid hR
      clear hR
      have HR : Hid (∀ W, BX 0 w W S → W.rangeAt (w.heap.size + 1 + 1) 0 [.string ⟨S.toArray⟩]) := Lib.hid (fun W h => h.gen.range)
      clear hX hXl hS hkn hk hlt hB hXn
      go_wp2
      refine QTail.region (C := fun W => BX 0 w W S) 5 (by kernel_rfl) (by kernel_rfl) Y ?_
      (refine wpQuiet_step (fun K hK => ?_); go_simp; refine ⟨_, fun _ _ => rfl, hK _ ?_⟩; clear hK K)
      (refine wpQuiet_step (fun K hK => ?_); go_simp; refine ⟨_, fun _ _ => rfl, hK _ ?_⟩; clear hK K)
      (refine wpQuiet_step (fun K hK => ?_); go_simp; refine ⟨.string ⟨R.toArray⟩, fun W hW => ?_, hK _ ?_⟩; (first | exact ⟨rfl, rfl⟩ | rfl | (rw [hsl W]; exact ⟨rfl, rfl⟩)); clear hK K)
      refine QTail.loadC (by rfl) 36 (.tmp 7) rfl (w.heap.size + 1 + 1) 0 rfl [.string ⟨S.toArray⟩] _ HR.out Tryd.underlying36 rfl (by kernel_rfl) ?_
      (refine wpQuiet_step (fun K hK => ?_); go_simp; refine ⟨_, fun _ _ => rfl, hK _ ?_⟩; clear hK K)
      refine wpQuiet_nil ?_
      clear Y
      intro w2 Y
      obtain ⟨y, hy⟩ := Y.res
      refine wpList_store_mid rfl 36 (.tmp 5) (.tmp 34) rfl (w.heap.size + 1) 0 #[.string ⟨S.toArray⟩] rfl rfl hy.there (by kernel_rfl) (by simp [Value.oneCell']) ?_
      obtain ⟨he, hbe⟩ := Hash.arr_end (w := w) (wr := w2) (g := w.heap.size + 1) (xs := [.string ⟨S.toArray⟩]) 36 Y.bel (by omega) hy.there Tryd.underlying36 rfl (by kernel_rfl)
      have HF := Lib.hid he
      have HB := Lib.hid hbe
      clear he hbe hy Y
      go_wp2
      refine bodyPost_ret (v := .tuple #[.string ⟨R.toArray⟩, .agg #[.string ⟨S.toArray⟩]]) ?_ rfl ⟨by rw [← HRB.out, ← HE.out], HB.out⟩
      have := HF.out
      simp [results, Tryd.results20, asAddr, Act.put]
      rw [this]
      rfl

set_option maxRecDepth 100000 in
set_option maxHeartbeats 1000000 in
theorem refBytes_out (s : List UInt8) (n : Int) (w : World) (hn : n < 0 ∨ 8000 < n) (ht : Table 0 w) :
    Calls Tryd.prog 20 #[.agg #[.string ⟨s.toArray⟩], .int .i64 n] w (GivesR [] s w) := by
  have Y := nx_new s (.string ⟨#[]⟩) 36 ht
  have HR : Hid (∀ W, NX 0 w W s → W.rangeAt w.heap.size 0 [.string ⟨s.toArray⟩]) := Lib.hid (fun W h => h.gen.range)
  clear ht
  rcases hn with hn | hn
  all_goals
    try have y2 : ¬ n < 0 := by omega
    go_enter Tryd.func20, Tryd.ntmps20
    go_wp2
    refine QTail.region (C := fun W => NX 0 w W s) 2 (by kernel_rfl) (by kernel_rfl) Y ?_
    refine QTail.loadC (by rfl) 36 (.tmp 2) rfl w.heap.size 0 rfl [.string ⟨s.toArray⟩] _ HR.out Tryd.underlying36 rfl (by kernel_rfl) ?_
    (refine wpQuiet_step (fun K hK => ?_); go_simp; refine ⟨_, fun _ _ => rfl, hK _ ?_⟩; clear hK K)
    refine wpQuiet_nil ?_
    clear Y
    intro w2 Y
    obtain ⟨y, hy⟩ := Y.res
    refine wpList_store_mid rfl 36 (.tmp 5) (.tmp 16) rfl (w.heap.size + 1) 0 #[.string ⟨s.toArray⟩] rfl rfl hy.there (by kernel_rfl) (by simp [Value.oneCell']) ?_
    obtain ⟨he, hbe⟩ := Hash.arr_end (w := w) (wr := w2) (g := w.heap.size + 1) (xs := [.string ⟨s.toArray⟩]) 36 Y.bel (by omega) hy.there Tryd.underlying36 rfl (by kernel_rfl)
    have HF := Lib.hid he
    have HB := Lib.hid hbe
    clear he hbe hy Y
    go_wp2
    refine bodyPost_ret (v := .tuple #[.string ⟨#[]⟩, .agg #[.string ⟨s.toArray⟩]]) ?_ rfl ⟨rfl, HB.out⟩
    have := HF.out
    simp [results, Tryd.results20, asAddr, Act.put]
    rw [this]
    rfl

theorem refBytes_any (s : List UInt8) (n : Int) (w : World) (hs : s.length ≤ 100000) (ht : Table 0 w) :
    Calls Tryd.prog 20 #[.agg #[.string ⟨s.toArray⟩], .int .i64 n] w (GivesR (bytesR s n).1 (bytesR s n).2 w) := by
  unfold bytesR
  by_cases h : n < 0 ∨ 8000 < n
  · rw [if_pos h]; exact refBytes_out s n w h ht
  · rw [if_neg h]
    have := refBytes_ok s n.toNat w hs (by omega) ht
    rwa [show ((n.toNat : Nat) : Int) = n by omega] at this

end Kdf
end Go.Proofs.YtoenkckoomfgeaaDoor
