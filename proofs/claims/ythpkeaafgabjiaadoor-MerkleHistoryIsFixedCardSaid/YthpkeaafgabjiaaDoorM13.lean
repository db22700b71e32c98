/- MOnes; MTop; MApp; MAdd; MAddB: what each of these parts proves stands ahead of it. -/
import Derived.Test.YthpkeaafgabjiaaDoorM12
import Derived.Laws.OwnMore
/- The reference of package merkle: ones, ValidPeaks. No condition but that numbers fit. -/
namespace Go.Proofs.YthpkeaafgabjiaaDoor
open Go.RowKit
namespace Mk
open Wire (bv sv Lies)
open Hash (Arr bcj)

set_option maxRecDepth 100000 in
set_option maxHeartbeats 1000000 in
theorem refOnes_any (n : Nat) (hn : n ≤ 9223372036854775807) (w : World) :
    Calls Tryd.prog 71 #[.int .i64 (n : Int)] w fun e w1 => e = .returned (.int .i64 (ones n : Int)) ∧ Below w.heap.size w w1 := by
  have HN : Hid (ones n ≤ 9223372036854775807) := Lib.hid (Nat.le_trans (ones_le n) hn)
  go_enter Tryd.func71, Tryd.ntmps71
  go_wp2
  go_loopw [0, 3] (fun nv cv wr => ∃ (k c : Nat), k ≤ n ∧ nv = .int .i64 (k : Int) ∧ cv = .int .i64 (c : Int) ∧ Hid (c + ones k = ones n) ∧ Below w.heap.size w wr) (fun nv _ _ => (intOf nv).toNat)
  case atStart => exact ⟨n, 0, Nat.le_refl _, rfl, rfl, Lib.hid (Nat.zero_add _), Below.refl _ _⟩
  case round =>
    obtain ⟨k, c, hk, rfl, rfl, HC, hbw⟩ := hrel
    by_cases h0 : k = 0
    · subst h0
      obtain rfl : c = ones n := by rw [← HC.out, ones_zero]; rfl
      go_wp2
      go_ret
      exact ⟨rfl, hbw⟩
    · have z0 : (0 : Int) < (k : Int) := by omega
      have hs : c + k % 2 + ones (k / 2) = ones n := by have := HC.out; rw [ones_step h0] at this; omega
      have hle : c + k % 2 ≤ 9223372036854775807 := by have := HN.out; omega
      have HS := Lib.hid hs
      clear hs
      go_wp2
      go_roundw
      case rel => exact ⟨k / 2, c + k % 2, by omega, by congr 1, by congr 1, HS, hbw⟩
      case measure => simp [intOf]; omega
/-- Peaks as a value. -/
def pkv (n : Int) (A : Option Addr) (k c : Nat) : Value := .agg #[.int .i64 n, .slice A k c]
/-- Whether peaks are valid. -/
def pkOk (n : Int) (k : Nat) : Bool := decide (0 ≤ n) && (decide (n ≤ 4294967296) && decide (k = ones n.toNat))
/-- Peaks lie in a block of their own. -/
structure Pk (W : World) (g : Nat) (n : Int) (A : Option Addr) (k c : Nat) : Prop where
  arr : Arr W g 2 [.int .i64 n, .slice A k c]
section
variable {W W' : World} {g k c : Nat} {n : Int} {A : Option Addr}
theorem Pk.lt (h : Pk W g n A k c) : g < W.heap.size := h.arr.size (by omega)
theorem Pk.on (h : Pk W g n A k c) (hb : Below W.heap.size W W') : Pk W' g n A k c := ⟨h.arr.below hb h.lt⟩
theorem Pk.size (h : Pk W g n A k c) : W.cell? ⟨g, 0, none⟩ = some (.int .i64 n) := h.arr.range 0 _ rfl
theorem Pk.roots (h : Pk W g n A k c) : W.cell? ⟨g, 1, none⟩ = some (.slice A k c) := h.arr.range 1 _ rfl
theorem pk_new (W : World) (n : Int) (A : Option Addr) (k c : Nat) (t : TypeId) : Pk (W.alloc (.cells #[.int .i64 n, .slice A k c] t)) W.heap.size n A k c := ⟨Hash.arr_new W #[.int .i64 n, .slice A k c] t⟩
end
/-- Peaks that came in. -/
structure Pa (w W : World) (n : Int) (A : Option Addr) (k c : Nat) : Prop where
  p : Pk W w.heap.size n A k c
  z : Below w.heap.size w W
theorem Pa.on {w W W' : World} {n : Int} {A : Option Addr} {k c : Nat} (h : Pa w W n A k c) (hb : Below W.heap.size W W') : Pa w W' n A k c := ⟨h.p.on hb, bcj h.z hb⟩

set_option maxRecDepth 100000 in
set_option maxHeartbeats 1000000 in
theorem refValid_any (n : Int) (A : Option Addr) (k c : Nat) (w : World) :
    Calls Tryd.prog 57 #[pkv n A k c] w (GivesT (pkOk n k) w) := by
  have Y : Pa w (w.alloc (.cells #[.int .i64 n, .slice A k c] 56)) n A k c := ⟨pk_new w n A k c _, Wire.b1 _ _⟩
  have HN : Hid (∀ W, Pa w W n A k c → W.cell? ⟨w.heap.size, 0, none⟩ = some (.int .i64 n)) := Lib.hid (fun W h => h.p.size)
  have HK : Hid (∀ W, Pa w W n A k c → W.cell? ⟨w.heap.size, 1, none⟩ = some (.slice A k c)) := Lib.hid (fun W h => h.p.roots)
  unfold pkv
  by_cases h0 : 0 ≤ n
  · by_cases h1 : n ≤ 4294967296
    · obtain ⟨m, rfl⟩ : ∃ m : Nat, n = (m : Int) := ⟨n.toNat, by omega⟩
      have HO : Hid (∀ W, Pa w W (m : Int) A k c → Calls Tryd.prog 71 #[.int .i64 (m : Int)] W fun e w1 => e = .returned (.int .i64 (ones m : Int)) ∧ Below W.heap.size W w1) := Lib.hid (fun W _ => refOnes_any m (by omega) W)
      have hR : pkOk (m : Int) k = ((k : Int) == (ones m : Int)) := (by
        unfold pkOk
        rw [decide_eq_true h0, decide_eq_true h1, Int.toNat_natCast]
        rw [Bool.eq_iff_iff]
        simp; omega)
      rw [hR]
      clear hR
      have w2 : (0 : Int) ≤ (m : Int) := h0
      go_enter Tryd.func57, Tryd.ntmps57
      go_wp2
      refine QTail.whole (fun W => Pa w W (m : Int) A k c) (by kernel_rfl) (by kernel_rfl) (Y.on (Hash.belowD _)) ?_
      (refine wpQuiet_step (fun K hK => ?_); go_simp; (first | refine hK _ ?_ | refine ⟨_, fun _ _ => rfl, hK _ ?_⟩); clear hK K)
      (refine wpQuiet_step (fun K hK => ?_); go_simp; refine ⟨(.int .i64 (m : Int)), fun W hW => ?_, hK _ ?_⟩; (first | (rw [HN.out W hW]; exact ⟨rfl, rfl⟩) | (rw [HN.out W hW]; rfl)); clear hK K)
      (refine wpQuiet_step (fun K hK => ?_); go_simp; (first | refine hK _ ?_ | refine ⟨_, fun _ _ => rfl, hK _ ?_⟩); clear hK K)
      (refine wpQuiet_step (fun K hK => ?_); go_simp; (first | refine hK _ ?_ | refine ⟨_, fun _ _ => rfl, hK _ ?_⟩); clear hK K)
      (refine wpQuiet_step (fun K hK => ?_); go_simp; (first | refine hK _ ?_ | refine ⟨_, fun _ _ => rfl, hK _ ?_⟩); clear hK K)
      (refine wpQuiet_step (fun K hK => ?_); go_simp; refine ⟨(.int .i64 (m : Int)), fun W hW => ?_, hK _ ?_⟩; (first | (rw [HN.out W hW]; exact ⟨rfl, rfl⟩) | (rw [HN.out W hW]; rfl)); clear hK K)
      (refine wpQuiet_step (fun K hK => ?_); go_simp; (first | refine hK _ ?_ | refine ⟨_, fun _ _ => rfl, hK _ ?_⟩); clear hK K)
      (refine wpQuiet_step (fun K hK => ?_); go_simp; (first | refine hK _ ?_ | refine ⟨_, fun _ _ => rfl, hK _ ?_⟩); clear hK K)
      (refine wpQuiet_step (fun K hK => ?_); go_simp; (first | refine hK _ ?_ | refine ⟨_, fun _ _ => rfl, hK _ ?_⟩); clear hK K)
      (refine wpQuiet_step (fun K hK => ?_); go_simp; (first | refine hK _ ?_ | refine ⟨_, fun _ _ => rfl, hK _ ?_⟩); clear hK K)
      (refine wpQuiet_step (fun K hK => ?_); go_simp; refine ⟨(.slice A k c), fun W hW => ?_, hK _ ?_⟩; (first | (rw [HK.out W hW]; exact ⟨rfl, rfl⟩) | (rw [HK.out W hW]; rfl)); clear hK K)
      (refine wpQuiet_step (fun K hK => ?_); go_simp; (first | refine hK _ ?_ | refine ⟨_, fun _ _ => rfl, hK _ ?_⟩); clear hK K)
      (refine wpQuiet_step (fun K hK => ?_); go_simp; (first | refine hK _ ?_ | refine ⟨_, fun _ _ => rfl, hK _ ?_⟩); clear hK K)
      (refine wpQuiet_step (fun K hK => ?_); go_simp; refine ⟨(.int .i64 (m : Int)), fun W hW => ?_, hK _ ?_⟩; (first | (rw [HN.out W hW]; exact ⟨rfl, rfl⟩) | (rw [HN.out W hW]; rfl)); clear hK K)
      (refine wpQuiet_step (fun K hK => ?_); go_simp; refine ⟨_, fun W hW => (HO.out W hW).mono fun e w' ⟨he, hb⟩ => ⟨he, hW.on hb⟩, hK _ ?_⟩; clear hK K)
      (refine wpQuiet_step (fun K hK => ?_); go_simp; (first | refine hK _ ?_ | refine ⟨_, fun _ _ => rfl, hK _ ?_⟩); clear hK K)
      (refine wpQuiet_step (fun K hK => ?_); go_simp; (first | refine hK _ ?_ | refine ⟨_, fun _ _ => rfl, hK _ ?_⟩); clear hK K)
      (refine wpQuiet_step (fun K hK => ?_); go_simp; (first | refine hK _ ?_ | refine ⟨_, fun _ _ => rfl, hK _ ?_⟩); clear hK K)
      refine wpQuiet_nil ?_
      clear Y
      intro w7 Y
      go_wp2
      go_ret
      exact ⟨rfl, Y.z⟩
    · have hR : pkOk n k = false := (by
        unfold pkOk
        rw [decide_eq_true h0, decide_eq_false h1]
        rfl)
      rw [hR]
      clear hR
      have hdd := decide_eq_false h1
      go_enter Tryd.func57, Tryd.ntmps57
      go_wp2
      refine QTail.whole (fun W => Pa w W n A k c) (by kernel_rfl) (by kernel_rfl) (Y.on (Hash.belowD _)) ?_
      (refine wpQuiet_step (fun K hK => ?_); go_simp; (first | refine hK _ ?_ | refine ⟨_, fun _ _ => rfl, hK _ ?_⟩); clear hK K)
      (refine wpQuiet_step (fun K hK => ?_); go_simp; refine ⟨(.int .i64 n), fun W hW => ?_, hK _ ?_⟩; (first | (rw [HN.out W hW]; exact ⟨rfl, rfl⟩) | (rw [HN.out W hW]; rfl)); clear hK K)
      (refine wpQuiet_step (fun K hK => ?_); go_simp; (first | refine hK _ ?_ | refine ⟨_, fun _ _ => rfl, hK _ ?_⟩); clear hK K)
      (refine wpQuiet_step (fun K hK => ?_); go_simp; (first | refine hK _ ?_ | refine ⟨_, fun _ _ => rfl, hK _ ?_⟩); clear hK K)
      (refine wpQuiet_step (fun K hK => ?_); go_simp; (first | refine hK _ ?_ | refine ⟨_, fun _ _ => rfl, hK _ ?_⟩); clear hK K)
      (refine wpQuiet_step (fun K hK => ?_); go_simp; refine ⟨(.int .i64 n), fun W hW => ?_, hK _ ?_⟩; (first | (rw [HN.out W hW]; exact ⟨rfl, rfl⟩) | (rw [HN.out W hW]; rfl)); clear hK K)
      (refine wpQuiet_step (fun K hK => ?_); go_simp; (first | refine hK _ ?_ | refine ⟨_, fun _ _ => rfl, hK _ ?_⟩); clear hK K)
      (refine wpQuiet_step (fun K hK => ?_); go_simp; (first | refine hK _ ?_ | refine ⟨_, fun _ _ => rfl, hK _ ?_⟩); clear hK K)
      (refine wpQuiet_step (fun K hK => ?_); go_simp; (first | refine hK _ ?_ | refine ⟨_, fun _ _ => rfl, hK _ ?_⟩); clear hK K)
      (with_reducible refine wpQuiet_step (fun K hK => ?_)); go_simp; (with_reducible refine hK _ ?_); clear hK K
      (with_reducible refine wpQuiet_step (fun K hK => ?_)); go_simp; (with_reducible refine hK _ ?_); clear hK K
      (with_reducible refine wpQuiet_step (fun K hK => ?_)); go_simp; (with_reducible refine hK _ ?_); clear hK K
      (with_reducible refine wpQuiet_step (fun K hK => ?_)); go_simp; (with_reducible refine hK _ ?_); clear hK K
      (with_reducible refine wpQuiet_step (fun K hK => ?_)); go_simp; (with_reducible refine hK _ ?_); clear hK K
      (with_reducible refine wpQuiet_step (fun K hK => ?_)); go_simp; (with_reducible refine hK _ ?_); clear hK K
      (with_reducible refine wpQuiet_step (fun K hK => ?_)); go_simp; (with_reducible refine hK _ ?_); clear hK K
      (refine wpQuiet_step (fun K hK => ?_); go_simp; (first | refine hK _ ?_ | refine ⟨_, fun _ _ => rfl, hK _ ?_⟩); clear hK K)
      (refine wpQuiet_step (fun K hK => ?_); go_simp; (first | refine hK _ ?_ | refine ⟨_, fun _ _ => rfl, hK _ ?_⟩); clear hK K)
      refine wpQuiet_nil ?_
      clear Y
      intro w7 Y
      go_wp2
      go_ret
      exact ⟨rfl, Y.z⟩
  · have hR : pkOk n k = false := (by
      unfold pkOk
      rw [decide_eq_false h0]
      rfl)
    rw [hR]
    clear hR
    have hdd := decide_eq_false h0
    go_enter Tryd.func57, Tryd.ntmps57
    go_wp2
    refine QTail.whole (fun W => Pa w W n A k c) (by kernel_rfl) (by kernel_rfl) (Y.on (Hash.belowD _)) ?_
    (refine wpQuiet_step (fun K hK => ?_); go_simp; (first | refine hK _ ?_ | refine ⟨_, fun _ _ => rfl, hK _ ?_⟩); clear hK K)
    (refine wpQuiet_step (fun K hK => ?_); go_simp; refine ⟨(.int .i64 n), fun W hW => ?_, hK _ ?_⟩; (first | (rw [HN.out W hW]; exact ⟨rfl, rfl⟩) | (rw [HN.out W hW]; rfl)); clear hK K)
    (refine wpQuiet_step (fun K hK => ?_); go_simp; (first | refine hK _ ?_ | refine ⟨_, fun _ _ => rfl, hK _ ?_⟩); clear hK K)
    (refine wpQuiet_step (fun K hK => ?_); go_simp; (first | refine hK _ ?_ | refine ⟨_, fun _ _ => rfl, hK _ ?_⟩); clear hK K)
    (with_reducible refine wpQuiet_step (fun K hK => ?_)); go_simp; (with_reducible refine hK _ ?_); clear hK K
    (with_reducible refine wpQuiet_step (fun K hK => ?_)); go_simp; (with_reducible refine hK _ ?_); clear hK K
    (with_reducible refine wpQuiet_step (fun K hK => ?_)); go_simp; (with_reducible refine hK _ ?_); clear hK K
    (refine wpQuiet_step (fun K hK => ?_); go_simp; (first | refine hK _ ?_ | refine ⟨_, fun _ _ => rfl, hK _ ?_⟩); clear hK K)
    (refine wpQuiet_step (fun K hK => ?_); go_simp; (first | refine hK _ ?_ | refine ⟨_, fun _ _ => rfl, hK _ ?_⟩); clear hK K)
    (with_reducible refine wpQuiet_step (fun K hK => ?_)); go_simp; (with_reducible refine hK _ ?_); clear hK K
    (with_reducible refine wpQuiet_step (fun K hK => ?_)); go_simp; (with_reducible refine hK _ ?_); clear hK K
    (with_reducible refine wpQuiet_step (fun K hK => ?_)); go_simp; (with_reducible refine hK _ ?_); clear hK K
    (with_reducible refine wpQuiet_step (fun K hK => ?_)); go_simp; (with_reducible refine hK _ ?_); clear hK K
    (with_reducible refine wpQuiet_step (fun K hK => ?_)); go_simp; (with_reducible refine hK _ ?_); clear hK K
    (with_reducible refine wpQuiet_step (fun K hK => ?_)); go_simp; (with_reducible refine hK _ ?_); clear hK K
    (with_reducible refine wpQuiet_step (fun K hK => ?_)); go_simp; (with_reducible refine hK _ ?_); clear hK K
    (refine wpQuiet_step (fun K hK => ?_); go_simp; (first | refine hK _ ?_ | refine ⟨_, fun _ _ => rfl, hK _ ?_⟩); clear hK K)
    (refine wpQuiet_step (fun K hK => ?_); go_simp; (first | refine hK _ ?_ | refine ⟨_, fun _ _ => rfl, hK _ ?_⟩); clear hK K)
    refine wpQuiet_nil ?_
    clear Y
    intro w7 Y
    go_wp2
    go_ret
    exact ⟨rfl, Y.z⟩
end Mk
end Go.Proofs.YthpkeaafgabjiaaDoor

/- The reference of package merkle: Top. Conditions: the roots read as a list of digests, the tables are laid. -/
namespace Go.Proofs.YthpkeaafgabjiaaDoor
open Go.RowKit
namespace Mk
open Wire (bv sv Lies)
open Hash (Arr bcj)

/-- A digest and an error number. -/
def GivesZ (d : List UInt8) (k : Int) (w : World) (e : Ending) (w' : World) : Prop := e = .returned (.tuple #[dv d, .int .i64 k]) ∧ Below w.heap.size w w'
/-- Peaks that came in, room for a digest that goes out. -/
structure Ta (w W : World) (n : Int) (A : Option Addr) (k c : Nat) : Prop where
  p : Pk W w.heap.size n A k c
  r : Dg W (w.heap.size + 1) zero
  z : Below w.heap.size w W
theorem Ta.on {w W W' : World} {n : Int} {A : Option Addr} {k c : Nat} (h : Ta w W n A k c) (hb : Below W.heap.size W W') : Ta w W' n A k c := ⟨h.p.on hb, h.r.on hb, bcj h.z hb⟩
theorem ta_new (w : World) (n : Int) (A : Option Addr) (k c : Nat) (t t2 : TypeId) : Ta w ((w.alloc (.cells #[.int .i64 n, .slice A k c] t)).alloc (.cells #[.int .u8 0, .int .u8 0, .int .u8 0, .int .u8 0, .int .u8 0, .int .u8 0, .int .u8 0, .int .u8 0, .int .u8 0, .int .u8 0, .int .u8 0, .int .u8 0, .int .u8 0, .int .u8 0, .int .u8 0, .int .u8 0] t2)) n A k c := by
  have h := dg_zero (w.alloc (.cells #[.int .i64 n, .slice A k c] t)) t2
  rw [World.size_alloc] at h
  exact ⟨(pk_new w n A k c t).on (Wire.b1 _ _), h, bcj (Wire.b1 _ _) (Wire.b1 _ _)⟩
theorem Ta.fin {w W : World} {n : Int} {A : Option Addr} {k c : Nat} {d : List UInt8} (h : Ta w W n A k c) (hd : d.length = 16) :
    (loadVar 29 ⟨w.heap.size + 1, 0, none⟩).run Tryd.prog (W.setCells (w.heap.size + 1) 0 (d.map bv)) = .ok (dv d) (W.setCells (w.heap.size + 1) 0 (d.map bv)) ∧ Below w.heap.size w (W.setCells (w.heap.size + 1) 0 (d.map bv)) :=
  dg_end h.r hd h.z (by omega)
/-- And a digest on its way. -/
structure Tb (w W : World) (n : Int) (A : Option Addr) (k c : Nat) (g : Nat) (x : List UInt8) : Prop where
  a : Ta w W n A k c
  x : Dg W g x
  far : w.heap.size + 2 ≤ g
theorem Tb.on {w W W' : World} {n : Int} {A : Option Addr} {k c g : Nat} {x : List UInt8} (h : Tb w W n A k c g x) (hb : Below W.heap.size W W') : Tb w W' n A k c g x := ⟨h.a.on hb, h.x.on hb, h.far⟩
theorem tb_room {w W : World} {n : Int} {A : Option Addr} {k c : Nat} (h : Ta w W n A k c) (t : TypeId) : Tb w (W.alloc (.cells #[.int .u8 0, .int .u8 0, .int .u8 0, .int .u8 0, .int .u8 0, .int .u8 0, .int .u8 0, .int .u8 0, .int .u8 0, .int .u8 0, .int .u8 0, .int .u8 0, .int .u8 0, .int .u8 0, .int .u8 0, .int .u8 0] t)) n A k c W.heap.size zero :=
  ⟨h.on (Wire.b1 _ _), dg_zero W t, h.r.lt⟩
theorem Tb.put {w W : World} {n : Int} {A : Option Addr} {k c g : Nat} {y x : List UInt8} (h : Tb w W n A k c g y) (hx : x.length = 16) : Tb w (W.setCells g 0 (x.map bv)) n A k c g x := by
  have hf := h.far
  exact ⟨⟨⟨h.a.p.arr.aside (by omega) _⟩, h.a.r.aside (by omega) _, h.a.z.trans (Hash.below_cells (B := w.heap.size) (by omega) _ _ _)⟩, h.x.put hx, hf⟩

set_option maxRecDepth 100000 in
set_option maxHeartbeats 1000000 in
theorem refTop_bad (n : Int) (A : Option Addr) (k c : Nat) (h : pkOk n k = false) (w : World) : Calls Tryd.prog 33 #[pkv n A k c] w (GivesZ zero 1 w) := by
  have Y := ta_new w n A k c 56 29
  have HV := Lib.hid (fun W => refValid_any n A k c W)
  rw [h] at HV
  have HZ := Lib.hid zero_length
  have hz : ∀ W, (Instr.build 29 #[]).run Tryd.prog W = .ok (.agg (zero.map bv).toArray) W := fun W => by kernel_rfl
  clear h
  unfold pkv at *
  go_enter Tryd.func33, Tryd.ntmps33
  go_wp2_with (first
    | (go_at_call 57; (with_reducible refine (HV.out _).mono ?_); rintro e w1 ⟨rfl, hb⟩; replace Y := Y.on hb; clear hb)
    | (refine store_d (.tmp 2) (.tmp 9) rfl rfl (w.heap.size + 1) 0 rfl zero rfl HZ.out Y.r.there ?_))
  have HE := Y.fin HZ.out
  refine bodyPost_ret (v := .tuple #[dv zero, .int .i64 1]) ?_ rfl ⟨rfl, HE.2⟩
  simp [results, Tryd.results33, asAddr]
  rw [HE.1]
  rfl

set_option maxRecDepth 100000 in
set_option maxHeartbeats 1000000 in
theorem refTop_nil (n : Int) (A : Option Addr) (c : Nat) (h : pkOk n 0 = true) (w : World) (ht : TT w) : Calls Tryd.prog 33 #[pkv n A 0 c] w (GivesZ HH.nil 0 w) := by
  have Y := ta_new w n A 0 c 56 29
  have HV := Lib.hid (fun W => refValid_any n A 0 c W)
  rw [h] at HV
  have HO := Lib.hid (fun W h => refOf_nil W h)
  have HTT := Lib.hid ht
  have HDL := Lib.hid nil_length
  have HC : Hid (∀ W, Ta w W n A 0 c → W.cell? ⟨w.heap.size, 1, none⟩ = some (.slice A 0 c)) := Lib.hid (fun W h => h.p.roots)
  generalize HH.nil = D at *
  clear h ht
  unfold pkv at *
  go_enter Tryd.func33, Tryd.ntmps33
  go_wp2_with (first
    | (go_at_call 57; (with_reducible refine (HV.out _).mono ?_); rintro e w1 ⟨rfl, hb⟩; replace Y := Y.on hb; clear hb; have hc1 := HC.out _ Y)
    | (go_at_call 43; (with_reducible refine (HO.out _ (HTT.out.on Y.z)).mono ?_); rintro e w3 ⟨rfl, hb⟩; replace Y := Y.on hb; clear hb hc1)
    | (refine store_d (.tmp 2) (.tmp 14) rfl rfl (w.heap.size + 1) 0 rfl D rfl HDL.out Y.r.there ?_))
  have HE := Y.fin HDL.out
  refine bodyPost_ret (v := .tuple #[dv D, .int .i64 0]) ?_ rfl ⟨rfl, HE.2⟩
  simp [results, Tryd.results33, asAddr]
  rw [HE.1]
  rfl

theorem foldl_len {l : List (List UInt8)} {x : List UInt8} (hx : x.length = 16) : (l.foldl (fun v y => HH.node y v) x).length = 16 := by
  induction l generalizing x with
  | nil => exact hx
  | cons y l ih => exact ih (node_length _ _)
theorem topOf_snoc2 {r : List (List UInt8)} {x : List UInt8} : topOf HH (r ++ [x]).reverse = r.reverse.foldl (fun v y => HH.node y v) x := by
  rw [List.reverse_append, List.reverse_singleton, List.singleton_append]; rfl

set_option maxRecDepth 100000 in
set_option maxHeartbeats 2000000 in
theorem refTop_some (n : Int) (A : Option Addr) (j c : Nat) (l : List (List UInt8)) (h : pkOk n (j + 1) = true) (w : World) (hl : LiesD w w.heap.size A (j + 1) c l) (ht : TT w) : Calls Tryd.prog 33 #[pkv n A (j + 1) c] w (GivesZ (topOf HH l.reverse) 0 w) := by
  have Y := ta_new w n A (j + 1) c 56 29
  have HV := Lib.hid (fun W => refValid_any n A (j + 1) c W)
  rw [h] at HV
  have HTT := Lib.hid ht
  have hln := hl.len
  have hmost : c ≤ 9223372036854775807 := by have := hl.lies.most; unfold maxLen at this; omega
  have hle := hl.lies.le
  have HC : Hid (∀ W, Ta w W n A (j + 1) c → W.cell? ⟨w.heap.size, 1, none⟩ = some (.slice A (j + 1) c)) := Lib.hid (fun W h => h.p.roots)
  obtain ⟨r, x, rfl⟩ : ∃ r x, l = r ++ [x] := ⟨l.dropLast, l.getLast (by intro h; rw [h] at hln; cases hln), (List.dropLast_concat_getLast _).symm⟩
  have hrl : r.length = j := by rw [List.length_append, List.length_singleton] at hln; omega
  obtain ⟨b, o, rfl, hbb, hrx⟩ := hl.row (j := j) (d := x) (by rw [List.getElem?_append_right (by omega), hrl, Nat.sub_self]; rfl)
  have hxl : x.length = 16 := hl.ok x (by simp)
  have hR := hl.take (k := j) (by omega)
  rw [List.take_left' hrl] at hR
  have HX := Lib.hid hxl
  have HRX : Hid (∀ W, Below w.heap.size w W → W.rangeAt b (o + j * 16) (x.map bv)) := Lib.hid (fun W h j u hu => (h.cell (by show b < w.heap.size; exact hbb)).trans (hrx j u hu))
  have HRR : Hid (∀ W, Below w.heap.size w W → ∀ m y, r[m]? = some y → W.rangeAt b (o + m * 16) (y.map bv)) := Lib.hid (fun W h m y hy => by
    obtain ⟨b', o', e, hb', hr'⟩ := hR.row hy
    simp only [Option.some.injEq, Addr.mk.injEq, and_true] at e
    obtain ⟨rfl, rfl⟩ := e
    exact fun j u hu => (h.cell (by show b < w.heap.size; exact hbb)).trans (hr' j u hu))
  have HRK : Hid (Ok r) := Lib.hid hR.ok
  rw [topOf_snoc2]
  have HRL := Lib.hid hrl
  have HND : Hid (∀ y d, y.length = 16 → d.length = 16 → ∀ W, TT W → Calls Tryd.prog 45 #[.agg (y.map bv).toArray, .agg (d.map bv).toArray] W (GivesD (HH.node y d) W)) := Lib.hid (fun y d hy hd W h => refNode_any y d hy hd W h)
  obtain ⟨D, hD⟩ : ∃ D, D = r.reverse.foldl (fun v y => HH.node y v) x := ⟨_, rfl⟩
  rw [← hD]
  have HD0 : Hid (D = (r.take j).reverse.foldl (fun v y => HH.node y v) x) := Lib.hid (by rw [hD, List.take_of_length_le (by omega)])
  have HS : Hid (∀ A B : Obj, ((w.alloc A).alloc B).heap.size = w.heap.size + 2) := Lib.hid (fun A B => by rw [World.size_alloc, World.size_alloc])
  have e1 : (((j + 1 : Nat) : Int) == 0) = false := by simp; omega
  have e2 : ¬ ((j + 1 : Nat) : Int) = 0 := by omega
  have e3 : ((j + 1 : Nat) : Int) - 1 = (j : Int) := by omega
  have e4 : ((j + 1 : Nat) : Int) - 2 = (j : Int) - 1 := by omega
  clear h ht hl hln hrx hxl hR hrl hD
  unfold pkv at *
  go_enter Tryd.func33, Tryd.ntmps33
  go_wp2_with (first
    | (go_at_call 57; (with_reducible refine (HV.out _).mono ?_); rintro e w1 ⟨rfl, hb⟩; replace Y := Y.on hb; clear hb; have hc1 := HC.out _ Y)
    | (refine load_d 22 rfl rfl _ rfl b (o + j * 16) rfl x HX.out (HRX.out _ Y.z) ?_)
    | (refine store_d (.tmp 4) (.tmp 22) rfl rfl w1.heap.size 0 rfl x rfl HX.out (tb_room Y _).x.there ?_; refine Hash.gen_world (Pq := fun W => Tb w W n (some ⟨b, o, none⟩) (j + 1) c w1.heap.size x) (G := fun W => wpList _ _ _ _ _ W) ((tb_room Y _).put HX.out) ?_; clear Y hc1; intro W2 Y; have hc1 := HC.out _ Y.a))
  generalize w1.heap.size = g at *
  go_loopw [5] (fun kv wr => ∃ (mm : Nat) (d : List UInt8), mm ≤ j ∧ kv = .int .i64 ((mm : Int) - 1) ∧ Hid (d.length = 16) ∧ Hid (D = (r.take mm).reverse.foldl (fun v y => HH.node y v) d) ∧ Tb w wr n (some ⟨b, o, none⟩) (j + 1) c g d) (fun kv _ => (intOf kv + 1).toNat)
  case atStart => exact ⟨j, x, Nat.le_refl _, by congr 1, HX, HD0, Y⟩
  case round =>
    clear Y hc1
    obtain ⟨mm, d, hmm, rfl, HDL, HDD, Y⟩ := hrel
    cases mm with
    | zero =>
      have e0 : (((0 : Nat) : Int) - 1) = -1 := rfl
      rw [e0]
      obtain rfl : D = d := HDD.out
      go_wp2_with (first
        | (refine load_d 38 rfl rfl _ rfl g 0 rfl D HDL.out Y.x.range ?_)
        | (refine store_d (.tmp 2) (.tmp 38) rfl rfl (w.heap.size + 1) 0 rfl D rfl HDL.out Y.a.r.there ?_))
      have HE := Y.a.fin HDL.out
      refine bodyPost_ret (v := .tuple #[dv D, .int .i64 0]) ?_ rfl ⟨rfl, HE.2⟩
      simp [results, Tryd.results33, asAddr]
      rw [HE.1]
      rfl
    | succ k =>
      have e0 : (((k + 1 : Nat) : Int) - 1) = (k : Int) := by omega
      rw [e0]
      obtain ⟨y, hy⟩ : ∃ y, r[k]? = some y := ⟨_, List.getElem?_eq_getElem (by rw [HRL.out]; omega)⟩
      have HY := Lib.hid (HRK.out.at_ hy)
      have HRY : Hid (∀ W, Tb w W n (some ⟨b, o, none⟩) (j + 1) c g d → W.rangeAt b (o + k * 16) (y.map bv)) := Lib.hid (fun W h => HRR.out W h.a.z k y hy)
      have HC2 : Hid (∀ W, Tb w W n (some ⟨b, o, none⟩) (j + 1) c g d → W.cell? ⟨w.heap.size, 1, none⟩ = some (.slice (some ⟨b, o, none⟩) (j + 1) c)) := Lib.hid (fun W h => HC.out W h.a)
      have HN2 : Hid (∀ W, Tb w W n (some ⟨b, o, none⟩) (j + 1) c g d → Calls Tryd.prog 45 #[.agg (y.map bv).toArray, .agg (d.map bv).toArray] W (GivesD (HH.node y d) W)) := Lib.hid (fun W h => HND.out y d HY.out HDL.out W (HTT.out.on h.a.z))
      have HDD2 : Hid (D = (r.take k).reverse.foldl (fun v y => HH.node y v) (HH.node y d)) := Lib.hid (by
        rw [HDD.out, List.take_add_one, hy]; simp)
      have HNL := Lib.hid (node_length y d)
      generalize HH.node y d = d2 at *
      have z0 : (0 : Int) ≤ (k : Int) := by omega
      have z1 : (k : Int) < ((j + 1 : Nat) : Int) := by omega
      have z2 : k < j + 1 := by omega
      have z6 : wrap64 ((k : Int) - 1) = (k : Int) - 1 := by simp only [wrap64]; omega
      clear hy HDD
      go_wp2
      refine QTail.region (C := fun W => Tb w W n (some ⟨b, o, none⟩) (j + 1) c g d) 7 (by kernel_rfl) (by kernel_rfl) (Y.on (Hash.belowD _)) ?_
      (refine wpQuiet_step (fun K hK => ?_); go_simp; (first | refine hK _ ?_ | refine ⟨_, fun _ _ => rfl, hK _ ?_⟩); clear hK K)
      (refine wpQuiet_step (fun K hK => ?_); go_simp; refine ⟨(.slice (some ⟨b, o, none⟩) (j + 1) c), fun W hW => ?_, hK _ ?_⟩; (first | (rw [HC2.out W hW]; exact ⟨rfl, rfl⟩) | (rw [HC2.out W hW]; rfl)); clear hK K)
      (refine wpQuiet_step (fun K hK => ?_); go_simp; (first | refine hK _ ?_ | refine ⟨_, fun _ _ => rfl, hK _ ?_⟩); clear hK K)
      (refine wpQuiet_step (fun K hK => ?_); go_simp; refine ⟨.pointer (some ⟨b, o + k * 16, none⟩), fun W hW => ?_, hK _ ?_⟩; (first | (rw [if_pos (by omega)]; exact ⟨rfl, rfl⟩) | (rw [if_pos (by omega)]; rfl) | exact ⟨rfl, rfl⟩ | rfl); clear hK K)
      refine QTail.loadC (by rfl) 29 (.tmp 34) rfl b (o + k * 16) rfl (y.map bv) _ HRY.out und_d rfl (info_d HY.out) ?_
      refine QTail.loadC (by rfl) 29 (.tmp 4) rfl g 0 rfl (d.map bv) _ (fun W h => h.x.range) und_d rfl (info_d HDL.out) ?_
      (refine wpQuiet_step (fun K hK => ?_); go_simp; refine ⟨_, fun W hW => (HN2.out W hW).mono fun e w' ⟨he, hb⟩ => ⟨he, hW.on hb⟩, hK _ ?_⟩; clear hK K)
      refine wpQuiet_nil ?_
      clear Y
      intro w7 Y
      simp only [List.drop_succ_cons, List.drop_zero]
      go_wp2_with (first
        | (refine store_d (.tmp 4) (.tmp 37) rfl rfl g 0 rfl d2 rfl HNL.out Y.x.there ?_; refine Hash.gen_world (Pq := fun W => Tb w W n (some ⟨b, o, none⟩) (j + 1) c g d2) (G := fun W => wpList _ _ _ _ _ W) (Y.put HNL.out) ?_; clear Y; intro W2 Y))
      go_roundw
      case rel => exact ⟨k, d2, Nat.le_of_succ_le hmm, rfl, HNL, HDD2, Y⟩
      case measure => simp [intOf]
end Mk
end Go.Proofs.YthpkeaafgabjiaaDoor

/- A slice of digests that came in, appended to one of one's own. No condition. -/
namespace Go.Proofs.YthpkeaafgabjiaaDoor
open Go.RowKit
namespace Mk
open Wire (bv sv Lies)
open Hash (Arr bcj)
section
variable {ops : Array Oper} {rest : List Oper} {o : Oper} {a : Act} {w : World} {Q : Exit → Act → World → Prop}
theorem cells_one {l : List (List UInt8)} : ∀ u ∈ cellsD l, u.oneCell' = true := fun u hu => by
  obtain ⟨d, _, h⟩ := List.mem_flatMap.1 hu
  exact one_cells d u h
theorem append_ds (hgd : o.guard = none) (s x : Operand) (ho : o.op = .call { callee := .builtin .append, args := #[s, x], argTypes := #[22, 22] })
    (base : Nat) (v : Value) (n : Nat) (l : List (List UInt8)) (hs : a.eval s = v) (hown : OwnD w base v n l) (A : Option Addr) (m c : Nat) (hx : a.eval x = .slice A m c) (ys : List (List UInt8)) (hy : LiesD w w.heap.size A m c ys)
    (hn : n + m ≤ 1099511627776) (hbase : base ≤ w.heap.size)
    (h : ∀ v' w', OwnD w' base v' (n + m) (l ++ ys) → Below base w w' → wpList Tryd.prog ops Q rest (a.put o.dst v') w') : wpList Tryd.prog ops Q (o :: rest) a w := by
  obtain ⟨i, hi, hz, hsz, hby⟩ := info_parts dig_info
  cases A with
  | none =>
    have hc : c = 0 := by
      rcases Nat.eq_zero_or_pos c with h | h
      · exact h
      · obtain ⟨_, _, e⟩ := hy.lies.some_ h; cases e
    have hm : m = 0 := by have := hy.lies.le; omega
    subst hc hm
    obtain rfl := List.eq_nil_of_length_eq_zero hy.len
    refine wpList_plain hgd fun K hK => ?_
    have hr := run_append_owned_none (P := Tryd.prog) (w := w) base 22 o.type 29 i 16 Tryd.underlying22 hi v n (cellsD l) hown.own
    unfold Oper.wp execOp
    simp only [ho, resolve, invoke, builtin, Sem.run_bind, Sem.run_pure, Result.andThen_ok, List.map_toArray, List.map_cons, List.map_nil, hs, hx, hr]
    exact hK _ _ (h v w (by rw [List.append_nil]; exact hown) (Below.refl _ _))
  | some ad =>
    refine wpList_append_own _ hgd s x _ ho base 29 i (dv zero) 16 16 Tryd.underlying22 hi hz hsz hby rfl (by decide) v n _ hs hown.own ad m c (cellsD ys) hx hy.lies.len (fun j u hu => ?_) cells_one (by unfold maxLen; omega) (by omega) hbase ?_
    · have hl : j < (cellsD ys).length := (List.getElem?_eq_some_iff.1 hu).1
      have := hy.lies.len
      obtain ⟨b, of, e, _, hc⟩ := hy.lies.cells (by omega)
      simp only [Option.some.injEq] at e
      subst e
      rw [Addr.add_mid]
      exact hc j u hu
    · intro v' w' ho' hg _
      refine h v' w' ⟨by rw [cellsD_append]; exact ho', hown.ok.append hy.ok⟩ ((Below.refl _ _).grown hg hbase (fun p hp => (hown.own.lt p hp).1))
end
end Mk
end Go.Proofs.YthpkeaafgabjiaaDoor

/- The reference of package merkle: Add. Conditions: the roots read as a list of digests, the tables are laid. -/
namespace Go.Proofs.YthpkeaafgabjiaaDoor
open Go.RowKit
namespace Mk
open Wire (bv sv Lies)
open Hash (Arr bcj)

/-- Peaks of one's own and an error number. -/
def GivesK (n : Int) (l : List (List UInt8)) (k : Int) (w : World) (e : Ending) (w' : World) : Prop :=
  ∃ A m c, e = .returned (.tuple #[pkv n A m c, .int .i64 k]) ∧ OwnD w' w.heap.size (.slice A m c) m l ∧ Below w.heap.size w w'
theorem und_k : ∃ d, Tryd.prog.underlying 56 = some d ∧ d.isRow = true := ⟨_, Tryd.underlying56, rfl⟩
theorem info_k (n : Int) (A : Option Addr) (k c : Nat) : (Tryd.prog.info? 56).map (·.size) = some ([Value.int .i64 n, .slice A k c]).length := by show _ = some 2; kernel_rfl
theorem OwnD.cells {W : World} {base g n : Nat} {v : Value} {l : List (List UInt8)} (h : OwnD W base v n l) (hg : g < base) (vs : List Value) (o : Nat) : OwnD (W.setCells g o vs) base v n l := by
  refine ⟨⟨h.own.1, ?_⟩, h.ok⟩
  rcases h.own.2 with h0 | ⟨g2, cap, cur, e2, hb, hcell, r⟩
  · exact .inl h0
  · exact .inr ⟨g2, cap, cur, e2, hb, (heap_cells (by omega) vs o W).trans hcell, r⟩
section
variable {ops : Array Oper} {rest : List Oper} {o : Oper} {a : Act} {w : World} {Q : Exit → Act → World → Prop}
theorem build_k (p : Operand) (ho : o.op = .build 56 #[(0, p)]) (hgd : o.guard = none) {n : Int} (hp : a.eval p = .int .i64 n)
    (h : wpList Tryd.prog ops Q rest (a.put o.dst (pkv n none 0 0)) w) : wpList Tryd.prog ops Q (o :: rest) a w := by
  have hb : Tryd.prog.built 56 ((#[(0, p)] : Array (Nat × Operand)).map fun (i, x) => (i, a.eval x)).toList = some #[.int .i64 n, .slice none 0 0] := by
    rw [Array.toList_map]
    simp only [List.map_cons, List.map_nil, hp]
    kernel_rfl
  refine wpList_build hgd _ _ ho (by rw [hb]; rfl) ?_
  rw [hb]
  exact h
theorem build_k0 (ho : o.op = .build 56 #[]) (hgd : o.guard = none)
    (h : wpList Tryd.prog ops Q rest (a.put o.dst (pkv 0 none 0 0)) w) : wpList Tryd.prog ops Q (o :: rest) a w := by
  have hb : Tryd.prog.built 56 ((#[] : Array (Nat × Operand)).map fun (i, x) => (i, a.eval x)).toList = some #[.int .i64 0, .slice none 0 0] := by
    rw [Array.toList_map]
    kernel_rfl
  refine wpList_build hgd _ _ ho (by rw [hb]; rfl) ?_
  rw [hb]
  exact h
theorem store_k (x y : Operand) (ho : o.op = .store 56 x y) (hgd : o.guard = none) (g : Nat) (hx : a.eval x = .pointer (some ⟨g, 0, none⟩)) {n : Int} {A : Option Addr} {k c : Nat} (hy : a.eval y = pkv n A k c) (ht : w.there g 0 2)
    (h : wpList Tryd.prog ops Q rest (a.put o.dst undef) (w.setCells g 0 [.int .i64 n, .slice A k c])) : wpList Tryd.prog ops Q (o :: rest) a w :=
  wpList_store_mid hgd 56 x y ho g 0 #[.int .i64 n, .slice A k c] hx hy ht (info_k n A k c) (all_oneCell_toArray (fun v hv => by simp only [List.mem_cons, List.not_mem_nil, or_false] at hv; rcases hv with rfl | rfl <;> rfl)) h
theorem load_k (k : Tmp) (_hk : o.dst = some k) (hgd : o.guard = none) (x : Operand) (ho : o.op = .load 56 x) (g : Nat) (hx : a.eval x = .pointer (some ⟨g, 0, none⟩)) {n : Int} {A : Option Addr} {m c : Nat} (hr : Pk w g n A m c)
    (h : wpList Tryd.prog ops Q rest (a.put o.dst (pkv n A m c)) w) : wpList Tryd.prog ops Q (o :: rest) a w := by
  obtain ⟨d, h1, h2⟩ := und_k
  exact wpList_load_mid hgd 56 x ho g 0 hx [.int .i64 n, .slice A m c] d hr.arr.range h1 h2 (info_k n A m c) h
end
/-- What came in, and room for peaks that go out. -/
structure Aa (w W : World) (n : Int) (A : Option Addr) (k c : Nat) (d : List UInt8) : Prop where
  p : Pk W w.heap.size n A k c
  d : Dg W (w.heap.size + 1) d
  r : ∃ zs, Arr W (w.heap.size + 1 + 1) 2 zs
  z : Below w.heap.size w W
section
variable {w W W' : World} {n : Int} {A : Option Addr} {k c : Nat} {d : List UInt8}
theorem Aa.on (h : Aa w W n A k c d) (hb : Below W.heap.size W W') : Aa w W' n A k c d := by
  obtain ⟨zs, hz⟩ := h.r
  exact ⟨h.p.on hb, h.d.on hb, ⟨zs, hz.below hb (hz.size (by omega))⟩, bcj h.z hb⟩
theorem aa_new (w : World) (n : Int) (A : Option Addr) (k c : Nat) {d : List UInt8} (hd : d.length = 16) (t t2 t3 : TypeId) : Aa w (((w.alloc (.cells #[.int .i64 n, .slice A k c] t)).alloc (.cells (d.map bv).toArray t2)).alloc (.cells #[.int .i64 0, .slice none 0 0] t3)) n A k c d := by
  have h := dg_new (w.alloc (.cells #[.int .i64 n, .slice A k c] t)) hd t2
  have h2 := Hash.arr_new ((w.alloc (.cells #[.int .i64 n, .slice A k c] t)).alloc (.cells (d.map bv).toArray t2)) #[.int .i64 0, .slice none 0 0] t3
  rw [World.size_alloc] at h
  rw [World.size_alloc, World.size_alloc] at h2
  exact ⟨((pk_new w n A k c t).on (Wire.b1 _ _)).on (Wire.b1 _ _), h.on (Wire.b1 _ _), ⟨_, h2⟩, bcj (bcj (Wire.b1 _ _) (Wire.b1 _ _)) (Wire.b1 _ _)⟩
theorem Aa.room (h : Aa w W n A k c d) : w.heap.size + 1 + 1 + 1 ≤ W.heap.size := by
  obtain ⟨zs, hz⟩ := h.r
  exact hz.size (by omega)
theorem Aa.cells {g : Nat} (h : Aa w W n A k c d) (hg : w.heap.size + 1 + 1 < g) (o : Nat) (vs : List Value) : Aa w (W.setCells g o vs) n A k c d := by
  obtain ⟨zs, hz⟩ := h.r
  exact ⟨⟨h.p.arr.aside (by omega) _⟩, ⟨h.d.arr.aside (by omega) _⟩, ⟨zs, hz.aside (by omega) _⟩, h.z.trans (Hash.below_cells (B := w.heap.size) (by omega) _ _ _)⟩
theorem Aa.fin (h : Aa w W n A k c d) (m : Int) (B : Option Addr) (q e : Nat) :
    (loadVar 56 ⟨w.heap.size + 1 + 1, 0, none⟩).run Tryd.prog (W.setCells (w.heap.size + 1 + 1) 0 [.int .i64 m, .slice B q e]) = .ok (pkv m B q e) (W.setCells (w.heap.size + 1 + 1) 0 [.int .i64 m, .slice B q e]) ∧ Below w.heap.size w (W.setCells (w.heap.size + 1 + 1) 0 [.int .i64 m, .slice B q e]) := by
  obtain ⟨_, h1, h2⟩ := und_k
  obtain ⟨zs, hz⟩ := h.r
  exact Hash.arr_end (w := w) (wr := W) (g := w.heap.size + 1 + 1) (xs := [.int .i64 m, .slice B q e]) 56 h.z (by omega) hz.there h1 h2 (info_k m B q e)
end

set_option maxRecDepth 100000 in
set_option maxHeartbeats 1000000 in
theorem refAdd_bad (n : Int) (A : Option Addr) (k c : Nat) (d : List UInt8) (hd : d.length = 16) (h : pkOk n k = false ∨ (pkOk n k = true ∧ n = 4294967296)) (w : World) : Calls Tryd.prog 32 #[pkv n A k c, dv d] w (GivesK 0 [] 1 w) := by
  have Y := aa_new w n A k c hd 56 29 56
  have HV := Lib.hid (fun W => refValid_any n A k c W)
  have HN := Lib.hid (ownD_nil w w.heap.size)
  clear hd
  unfold pkv dv at *
  rcases h with h | ⟨h, rfl⟩
  all_goals
    rw [h] at HV
    clear h
    go_enter Tryd.func32, Tryd.ntmps32
    go_wp2_with (first
      | (go_at_call 57; (with_reducible refine (HV.out _).mono ?_); rintro e w1 ⟨rfl, hb⟩; replace Y := Y.on hb; clear hb; have hc1 := Y.p.size; have hth : w1.there (w.heap.size + 1 + 1) 0 2 := (by obtain ⟨zs, hz⟩ := Y.r; exact hz.there))
      | (refine build_k0 rfl rfl ?_)
      | (refine store_k (.tmp 4) (.tmp 18) rfl rfl (w.heap.size + 1 + 1) rfl (n := 0) (A := none) (k := 0) (c := 0) rfl hth ?_))
    have HE := Y.fin 0 none 0 0
    refine bodyPost_ret (v := .tuple #[pkv 0 none 0 0, .int .i64 1]) ?_ rfl ⟨_, _, _, rfl, ownD_nil _ _, HE.2⟩
    simp [results, Tryd.results32, asAddr]
    rw [HE.1]
    rfl
end Mk
end Go.Proofs.YthpkeaafgabjiaaDoor

/- The reference of package merkle: Add, where the peaks are valid. Conditions: the roots read as a list of digests, the tables are laid. -/
namespace Go.Proofs.YthpkeaafgabjiaaDoor
open Go.RowKit
namespace Mk
open Wire (bv sv Lies)
open Hash (Arr bcj)

/-- And the digest on its way. -/
structure Ab (w W : World) (n : Int) (A : Option Addr) (k c : Nat) (d : List UInt8) (g : Nat) (x : List UInt8) : Prop where
  a : Aa w W n A k c d
  x : Dg W g x
  far : w.heap.size + 1 + 1 < g
/-- And the peaks that are made. -/
structure Ac (w W : World) (n : Int) (A : Option Addr) (k c : Nat) (d : List UInt8) (g : Nat) (x : List UInt8) (g2 : Nat) (m : Int) (B : Option Addr) (q e : Nat) : Prop where
  b : Ab w W n A k c d g x
  o : Pk W g2 m B q e
  far : g < g2
section
variable {w W W' : World} {n m : Int} {A B : Option Addr} {k c g g2 q e : Nat} {d x : List UInt8}
theorem Ab.on (h : Ab w W n A k c d g x) (hb : Below W.heap.size W W') : Ab w W' n A k c d g x := ⟨h.a.on hb, h.x.on hb, h.far⟩
theorem ab_room (h : Aa w W n A k c d) (t : TypeId) : Ab w (W.alloc (.cells #[.int .u8 0, .int .u8 0, .int .u8 0, .int .u8 0, .int .u8 0, .int .u8 0, .int .u8 0, .int .u8 0, .int .u8 0, .int .u8 0, .int .u8 0, .int .u8 0, .int .u8 0, .int .u8 0, .int .u8 0, .int .u8 0] t)) n A k c d W.heap.size zero :=
  ⟨h.on (Wire.b1 _ _), dg_zero W t, h.room⟩
theorem Ab.put {y : List UInt8} (h : Ab w W n A k c d g y) (hx : x.length = 16) : Ab w (W.setCells g 0 (x.map bv)) n A k c d g x := ⟨h.a.cells h.far _ _, h.x.put hx, h.far⟩
theorem Ac.on (h : Ac w W n A k c d g x g2 m B q e) (hb : Below W.heap.size W W') : Ac w W' n A k c d g x g2 m B q e := ⟨h.b.on hb, h.o.on hb, h.far⟩
theorem ac_room (h : Ab w W n A k c d g x) (t : TypeId) : Ac w (W.alloc (.cells #[.int .i64 0, .slice none 0 0] t)) n A k c d g x W.heap.size 0 none 0 0 := ⟨h.on (Wire.b1 _ _), pk_new W 0 none 0 0 t, h.x.lt⟩
theorem Ac.put (h : Ac w W n A k c d g x g2 m B q e) (m' : Int) (B' : Option Addr) (q' e' : Nat) : Ac w (W.setCells g2 0 [.int .i64 m', .slice B' q' e']) n A k c d g x g2 m' B' q' e' := by
  have hf := h.far
  have hf2 := h.b.far
  exact ⟨⟨h.b.a.cells (by omega) _ _, ⟨h.b.x.arr.aside (by omega) _⟩, hf2⟩, ⟨h.o.arr.over rfl⟩, hf⟩
theorem Ac.under {B' : Nat} (h : Ac w W n A k c d g x g2 m B q e) (hb : Below B' W W') (hB : g2 < B') : Ac w W' n A k c d g x g2 m B q e := by
  have hf := h.far
  have hf2 := h.b.far
  obtain ⟨zs, hz⟩ := h.b.a.r
  exact ⟨⟨⟨⟨h.b.a.p.arr.below hb (by omega)⟩, ⟨h.b.a.d.arr.below hb (by omega)⟩, ⟨zs, hz.below hb (by omega)⟩, h.b.a.z.trans (hb.mono (by omega))⟩, ⟨h.b.x.arr.below hb (by omega)⟩, hf2⟩, ⟨h.o.arr.below hb (by omega)⟩, hf⟩
/-- The roots alone are set. -/
theorem Ac.set (h : Ac w W n A k c d g x g2 m B q e) (B' : Option Addr) (q' e' : Nat) : Ac w (W.setCell ⟨g2, 1, none⟩ (.slice B' q' e')) n A k c d g x g2 m B' q' e' := by
  have hf := h.far
  have hf2 := h.b.far
  have h1 := h.o.arr.set (i := 1) (by omega) (.slice B' q' e')
  exact ⟨⟨h.b.a.cells (g := g2) (by omega) 1 [.slice B' q' e'], ⟨h.b.x.arr.aside (k := g2) (ys := [.slice B' q' e']) (by omega) 1⟩, hf2⟩, ⟨h1⟩, hf⟩
end

set_option maxRecDepth 100000 in
set_option maxHeartbeats 4000000 in
theorem refAdd_nil (m : Nat) (d : List UInt8) (hd : d.length = 16) (l : List (List UInt8)) (h : pkOk (m : Int) 0 = true) (hm : m < 4294967296) (w : World) (hl : LiesD w w.heap.size none 0 0 l) (ht : TT w) :
    Calls Tryd.prog 32 #[pkv (m : Int) none 0 0, dv d] w (GivesK ((m : Int) + 1) (added HH l m d) 0 w) := by
  have Y := aa_new w (m : Int) none 0 0 hd 56 29 56
  have HV := Lib.hid (fun W => refValid_any (m : Int) none 0 0 W)
  rw [h] at HV
  have hk : 0 = ones m := by
    unfold pkOk at h
    simp only [Bool.and_eq_true, decide_eq_true_eq, Int.toNat_natCast] at h
    exact h.2.2
  have hln := hl.len
  have hmost : 0 ≤ 9223372036854775807 := by have := hl.lies.most; unfold maxLen at this; omega
  have hle := hl.lies.le
  have HTT := Lib.hid ht
  have HD := Lib.hid hd
  have HLF := Lib.hid (fun W h => refLeaf_any d hd W h)
  have HLL := Lib.hid (leaf_length d)
  have HAD : Hid (added HH l m d = (addUp HH l.reverse m (HH.leaf d)).1.reverse ++ [(addUp HH l.reverse m (HH.leaf d)).2]) := Lib.hid rfl
  have HOL : Hid (ones m ≤ 4294967296) := Lib.hid (Nat.le_trans (ones_le m) (Nat.le_of_lt hm))
  generalize HH.leaf d = x0 at *
  have HC1 : Hid (∀ W, Aa w W (m : Int) none 0 0 d → W.cell? ⟨w.heap.size, 1, none⟩ = some (.slice none 0 0)) := Lib.hid (fun W h => h.p.roots)
  have HC0 : Hid (∀ W, Aa w W (m : Int) none 0 0 d → W.cell? ⟨w.heap.size, 0, none⟩ = some (.int .i64 (m : Int))) := Lib.hid (fun W h => h.p.size)
  have HND : Hid (∀ y d, y.length = 16 → d.length = 16 → ∀ W, TT W → Calls Tryd.prog 45 #[.agg (y.map bv).toArray, .agg (d.map bv).toArray] W (GivesD (HH.node y d) W)) := Lib.hid (fun y d hy hd W h => refNode_any y d hy hd W h)
  have HRK : Hid (Ok l) := Lib.hid hl.ok
  have HLN := Lib.hid hln
  have HTK : Hid (∀ W, Below w.heap.size w W → ∀ mm, mm ≤ 0 → LiesD W W.heap.size none mm 0 (l.take mm)) := Lib.hid (fun W h mm hmm => ((hl.take hmm).below h).more h.size)
  have e6 : wrap64 ((m : Int) + 1) = (m : Int) + 1 := by simp only [wrap64]; omega
  have e7 : ¬ (m : Int) = 4294967296 := by omega
  have e8 : ((m : Int) == 4294967296) = false := by simpa using e7
  have hm2 : m ≤ 4294967296 := Nat.le_of_lt hm
  have HKO := Lib.hid hk
  clear h ht hl hln hd hk hm
  unfold pkv at HV ⊢
  unfold dv
  go_enter Tryd.func32, Tryd.ntmps32
  go_wp2_with (first
    | (go_at_call 57; (with_reducible refine (HV.out _).mono ?_); rintro e w1 ⟨rfl, hb⟩; replace Y := Y.on hb; clear hb; have hc0 := HC0.out _ Y)
    | (refine load_d 19 rfl rfl _ rfl (w.heap.size + 1) 0 rfl d HD.out Y.d.range ?_)
    | (go_at_call 44; (with_reducible refine (HLF.out _ (HTT.out.on Y.z)).mono ?_); rintro e w2 ⟨rfl, hb⟩; replace Y := Y.on hb; clear hb)
    | (refine store_d (.tmp 6) (.tmp 20) rfl rfl w2.heap.size 0 rfl x0 rfl HLL.out (ab_room Y _).x.there ?_; refine Hash.gen_world (Pq := fun W => Ab w W (m : Int) none 0 0 d w2.heap.size x0) (G := fun W => wpList _ _ _ _ _ W) ((ab_room Y _).put HLL.out) ?_; clear Y hc0; intro W2 Y; have hc0 := HC0.out _ Y.a; have hc1 := HC1.out _ Y.a))
  generalize w2.heap.size = g at *
  go_loopw [7, 8] (fun nv kv wr => ∃ (nn mm : Nat) (x : List UInt8), nn ≤ 4294967296 ∧ Hid (mm ≤ 0) ∧ nv = .int .i64 (nn : Int) ∧ kv = .int .i64 (mm : Int) ∧ Hid (mm = ones nn) ∧ Hid (x.length = 16) ∧ Hid (addUp HH l.reverse m x0 = addUp HH (l.take mm).reverse nn x) ∧ Ab w wr (m : Int) none 0 0 d g x) (fun nv _ _ => (intOf nv).toNat)
  case atStart => exact ⟨m, 0, x0, hm2, Lib.hid (Nat.le_refl _), rfl, rfl, HKO, HLL, Lib.hid (by rw [List.take_of_length_le (Nat.le_of_eq HLN.out)]), Y⟩
  case round =>
    clear Y hc0 hc1
    obtain ⟨nn, mm, x, hnn, hmm, rfl, rfl, HON, HXL, HAU, Y⟩ := hrel
    by_cases hodd : nn % 2 = 1
    · have hone : ones nn = 1 + ones (nn / 2) := by rw [ones_half, hodd]
      exfalso
      have := hmm.out
      have := HON.out
      omega
    · have y1 : ¬ (nn : Int) % 2 = 1 := by omega
      have y2 : ((nn : Int) % 2 == 1) = false := by simpa using y1
      have HAU2 : Hid (added HH l m d = l.take mm ++ [x]) := Lib.hid (by
        rw [HAD.out, HAU.out, addUp_even HH (by omega), List.reverse_reverse])
      have HFI : Hid (mm + 1 ≤ 1099511627776) := Lib.hid (by have h1 := hmm.out; have h2 := HKO.out; have h3 := HOL.out; omega)
      generalize added HH l m d = R at *
      have hc0 := HC0.out _ Y.a
      obtain rfl : mm = 0 := Nat.le_zero.1 hmm.out
      
      
      
      clear HAU HON hodd
      go_wp2_with (first
        | (refine build_k (.tmp 42) rfl rfl (n := (m : Int) + 1) rfl ?_)
        | (refine store_k (.tmp 9) (.tmp 43) rfl rfl wr.heap.size rfl (n := (m : Int) + 1) (A := none) (k := 0) (c := 0) rfl (pk_new wr 0 none 0 0 _).arr.there ?_; refine Hash.gen_world (Pq := fun W => Ac w W (m : Int) none 0 0 d g x wr.heap.size ((m : Int) + 1) none 0 0) (G := fun W => wpList _ _ _ _ _ W) ((ac_room Y _).put _ _ _ _) ?_; clear Y hc0; intro W3 Y))
      generalize wr.heap.size = g2 at *
      have HQ0 : Hid (∀ W, Ac w W (m : Int) none 0 0 d g x g2 ((m : Int) + 1) none 0 0 → W.cell? ⟨g2, 1, none⟩ = some (.slice none 0 0)) := Lib.hid (fun W h => h.o.roots)
      have HQ1 : Hid (∀ W, Ac w W (m : Int) none 0 0 d g x g2 ((m : Int) + 1) none 0 0 → W.cell? ⟨w.heap.size, 1, none⟩ = some (.slice none 0 0)) := Lib.hid (fun W h => HC1.out W h.b.a)
      refine QTail.region (C := fun W => Ac w W (m : Int) none 0 0 d g x g2 ((m : Int) + 1) none 0 0) 6 (by kernel_rfl) (by kernel_rfl) (Y.on (Hash.belowD _)) ?_
      (refine wpQuiet_step (fun K hK => ?_); go_simp; (first | refine hK _ ?_ | refine ⟨_, fun _ _ => rfl, hK _ ?_⟩); clear hK K)
      (refine wpQuiet_step (fun K hK => ?_); go_simp; refine ⟨(.slice none 0 0), fun W hW => ?_, hK _ ?_⟩; (first | (rw [HQ0.out W hW]; exact ⟨rfl, rfl⟩) | (rw [HQ0.out W hW]; rfl)); clear hK K)
      (refine wpQuiet_step (fun K hK => ?_); go_simp; (first | refine hK _ ?_ | refine ⟨_, fun _ _ => rfl, hK _ ?_⟩); clear hK K)
      (refine wpQuiet_step (fun K hK => ?_); go_simp; refine ⟨(.slice none 0 0), fun W hW => ?_, hK _ ?_⟩; (first | (rw [HQ1.out W hW]; exact ⟨rfl, rfl⟩) | (rw [HQ1.out W hW]; rfl)); clear hK K)
      (refine wpQuiet_step (fun K hK => ?_); go_simp; (first | refine hK _ ?_ | refine ⟨_, fun _ _ => rfl, hK _ ?_⟩); clear hK K)
      (refine wpQuiet_step (fun K hK => ?_); go_simp; refine ⟨(.slice none 0 0), fun W hW => ?_, hK _ ?_⟩; (first | exact ⟨rfl, rfl⟩ | rfl | (rw [if_pos (by omega)]; exact ⟨rfl, rfl⟩) | (rw [if_pos (by omega), if_neg (by omega)]; exact ⟨rfl, rfl⟩) | (rw [if_neg (by omega)]; exact ⟨rfl, rfl⟩)); clear hK K)
      refine wpQuiet_nil ?_
      clear Y
      intro w7 Y
      simp only [List.drop_succ_cons, List.drop_zero]
      have hg2 := Y.o.lt
      go_wp2_with (first
        | (at_builtin; refine append_ds rfl _ _ rfl w7.heap.size (.slice none 0 0) 0 [] rfl (ownD_nil _ _) none 0 0 rfl (l.take 0) (HTK.out _ Y.b.a.z _ hmm.out) (by rw [Nat.zero_add]; exact Nat.le_of_succ_le HFI.out) (Nat.le_refl _) ?_; intro v6 w6 ho6 hb6; rw [Nat.zero_add, List.nil_append] at ho6; obtain ⟨A6, c6, rfl, -⟩ := ho6.form; replace Y := Y.on hb6; have HO6 := Lib.hid ho6; have HS6 := Lib.hid hb6.size; obtain ⟨⟨u1, f0⟩, f1⟩ := Y.o.arr.some_ (i := 1) (by omega); clear ho6 hb6)
        | ((with_reducible refine Hash.at_slot 54 rfl ?_); refine Hash.gen_world (Pq := fun W => Ac w W (m : Int) none 0 0 d g x g2 ((m : Int) + 1) A6 0 c6 ∧ OwnD W w7.heap.size (.slice A6 0 c6) 0 (l.take 0) ∧ w7.heap.size ≤ W.heap.size) (G := fun W => wpList _ _ _ _ _ W) ⟨Y.set _ _ _, HO6.out.cells hg2 [.slice A6 0 c6] 1, (by have := HS6.out; simpa [World.setCell] using this)⟩ ?_; clear Y f0 f1; intro W8 Y8; obtain ⟨Y, ho8, hs8⟩ := Y8; have HO8 := Lib.hid ho8; have HS8 := Lib.hid hs8; clear ho8 hs8; refine load_d 54 rfl rfl _ rfl g 0 rfl x HXL.out Y.b.x.range ?_; unfold dv; have hXL := HXL.out; have hr1 := Y.o.roots)
        | (at_builtin; rw [Wire.fold_cells (cs := x.map bv) (m := 16) (by rw [List.length_map]; exact HXL.out) _ rfl]; refine append_d rfl (.tmp 53) (.tmp 55) rfl w7.heap.size (.slice A6 0 c6) 0 (l.take 0) rfl (HO8.out.on (Wire.b1 _ _)) W8.heap.size rfl x HXL.out (lit_range W8 HXL.out _) (Nat.le_of_succ_le HFI.out) (Nat.le_trans HS8.out (Wire.b1 W8 _).size) ?_; intro v9 w9 ho9 hb9; obtain ⟨A9, c9, rfl, -⟩ := ho9.form; replace Y := (Y.on (Wire.b1 _ _)).under hb9 hg2; have HO9 := Lib.hid ho9; obtain ⟨⟨u2, f2⟩, f3⟩ := Y.o.arr.some_ (i := 1) (by omega); clear ho9 hb9 hr1 hXL)
        | ((with_reducible refine Hash.at_slot 58 rfl ?_); refine Hash.gen_world (Pq := fun W => Ac w W (m : Int) none 0 0 d g x g2 ((m : Int) + 1) A9 (0 + 1) c9 ∧ OwnD W w7.heap.size (.slice A9 (0 + 1) c9) (0 + 1) (l.take 0 ++ [x])) (G := fun W => wpList _ _ _ _ _ W) ⟨Y.set _ _ _, HO9.out.cells hg2 [.slice A9 (0 + 1) c9] 1⟩ ?_; clear Y f2 f3; intro W10 Y10; obtain ⟨Y, ho10⟩ := Y10; have HO10 := Lib.hid ho10; clear ho10; refine load_k 58 rfl rfl _ rfl g2 rfl Y.o ?_; have hth : W10.there (w.heap.size + 1 + 1) 0 2 := (by obtain ⟨zs, hz⟩ := Y.b.a.r; exact hz.there))
        | (refine store_k (.tmp 4) (.tmp 58) rfl rfl (w.heap.size + 1 + 1) rfl (n := (m : Int) + 1) (A := A9) (k := 0 + 1) (c := c9) rfl hth ?_))
      have HE := Y.b.a.fin ((m : Int) + 1) A9 (0 + 1) c9
      have hfar1 := Y.far
      have hfar2 := Y.b.far
      obtain rfl := HAU2.out
      refine bodyPost_ret (v := .tuple #[pkv ((m : Int) + 1) A9 (0 + 1) c9, .int .i64 0]) ?_ rfl ⟨_, _, _, rfl, (HO10.out.cells (by omega) _ 0).more (by omega), HE.2⟩
      simp [results, Tryd.results32, asAddr]
      rw [HE.1]
      rfl

set_option maxRecDepth 100000 in
set_option maxHeartbeats 4000000 in
theorem refAdd_zero (m : Nat) (ad : Addr) (d : List UInt8) (hd : d.length = 16) (l : List (List UInt8)) (h : pkOk (m : Int) 0 = true) (hm : m < 4294967296) (w : World) (hl : LiesD w w.heap.size (some ad) 0 0 l) (ht : TT w) :
    Calls Tryd.prog 32 #[pkv (m : Int) (some ad) 0 0, dv d] w (GivesK ((m : Int) + 1) (added HH l m d) 0 w) := by
  have Y := aa_new w (m : Int) (some ad) 0 0 hd 56 29 56
  have HV := Lib.hid (fun W => refValid_any (m : Int) (some ad) 0 0 W)
  rw [h] at HV
  have hk : 0 = ones m := by
    unfold pkOk at h
    simp only [Bool.and_eq_true, decide_eq_true_eq, Int.toNat_natCast] at h
    exact h.2.2
  have hln := hl.len
  have hmost : 0 ≤ 9223372036854775807 := by have := hl.lies.most; unfold maxLen at this; omega
  have hle := hl.lies.le
  have HTT := Lib.hid ht
  have HD := Lib.hid hd
  have HLF := Lib.hid (fun W h => refLeaf_any d hd W h)
  have HLL := Lib.hid (leaf_length d)
  have HAD : Hid (added HH l m d = (addUp HH l.reverse m (HH.leaf d)).1.reverse ++ [(addUp HH l.reverse m (HH.leaf d)).2]) := Lib.hid rfl
  have HOL : Hid (ones m ≤ 4294967296) := Lib.hid (Nat.le_trans (ones_le m) (Nat.le_of_lt hm))
  generalize HH.leaf d = x0 at *
  have HC1 : Hid (∀ W, Aa w W (m : Int) (some ad) 0 0 d → W.cell? ⟨w.heap.size, 1, none⟩ = some (.slice (some ad) 0 0)) := Lib.hid (fun W h => h.p.roots)
  have HC0 : Hid (∀ W, Aa w W (m : Int) (some ad) 0 0 d → W.cell? ⟨w.heap.size, 0, none⟩ = some (.int .i64 (m : Int))) := Lib.hid (fun W h => h.p.size)
  have HND : Hid (∀ y d, y.length = 16 → d.length = 16 → ∀ W, TT W → Calls Tryd.prog 45 #[.agg (y.map bv).toArray, .agg (d.map bv).toArray] W (GivesD (HH.node y d) W)) := Lib.hid (fun y d hy hd W h => refNode_any y d hy hd W h)
  have HRK : Hid (Ok l) := Lib.hid hl.ok
  have HLN := Lib.hid hln
  have HTK : Hid (∀ W, Below w.heap.size w W → ∀ mm, mm ≤ 0 → LiesD W W.heap.size (some ad) mm 0 (l.take mm)) := Lib.hid (fun W h mm hmm => ((hl.take hmm).below h).more h.size)
  have e6 : wrap64 ((m : Int) + 1) = (m : Int) + 1 := by simp only [wrap64]; omega
  have e7 : ¬ (m : Int) = 4294967296 := by omega
  have e8 : ((m : Int) == 4294967296) = false := by simpa using e7
  have hm2 : m ≤ 4294967296 := Nat.le_of_lt hm
  have HKO := Lib.hid hk
  clear h ht hl hln hd hk hm
  unfold pkv at HV ⊢
  unfold dv
  go_enter Tryd.func32, Tryd.ntmps32
  go_wp2_with (first
    | (go_at_call 57; (with_reducible refine (HV.out _).mono ?_); rintro e w1 ⟨rfl, hb⟩; replace Y := Y.on hb; clear hb; have hc0 := HC0.out _ Y)
    | (refine load_d 19 rfl rfl _ rfl (w.heap.size + 1) 0 rfl d HD.out Y.d.range ?_)
    | (go_at_call 44; (with_reducible refine (HLF.out _ (HTT.out.on Y.z)).mono ?_); rintro e w2 ⟨rfl, hb⟩; replace Y := Y.on hb; clear hb)
    | (refine store_d (.tmp 6) (.tmp 20) rfl rfl w2.heap.size 0 rfl x0 rfl HLL.out (ab_room Y _).x.there ?_; refine Hash.gen_world (Pq := fun W => Ab w W (m : Int) (some ad) 0 0 d w2.heap.size x0) (G := fun W => wpList _ _ _ _ _ W) ((ab_room Y _).put HLL.out) ?_; clear Y hc0; intro W2 Y; have hc0 := HC0.out _ Y.a; have hc1 := HC1.out _ Y.a))
  generalize w2.heap.size = g at *
  go_loopw [7, 8] (fun nv kv wr => ∃ (nn mm : Nat) (x : List UInt8), nn ≤ 4294967296 ∧ Hid (mm ≤ 0) ∧ nv = .int .i64 (nn : Int) ∧ kv = .int .i64 (mm : Int) ∧ Hid (mm = ones nn) ∧ Hid (x.length = 16) ∧ Hid (addUp HH l.reverse m x0 = addUp HH (l.take mm).reverse nn x) ∧ Ab w wr (m : Int) (some ad) 0 0 d g x) (fun nv _ _ => (intOf nv).toNat)
  case atStart => exact ⟨m, 0, x0, hm2, Lib.hid (Nat.le_refl _), rfl, rfl, HKO, HLL, Lib.hid (by rw [List.take_of_length_le (Nat.le_of_eq HLN.out)]), Y⟩
  case round =>
    clear Y hc0 hc1
    obtain ⟨nn, mm, x, hnn, hmm, rfl, rfl, HON, HXL, HAU, Y⟩ := hrel
    by_cases hodd : nn % 2 = 1
    · have hone : ones nn = 1 + ones (nn / 2) := by rw [ones_half, hodd]
      exfalso
      have := hmm.out
      have := HON.out
      omega
    · have y1 : ¬ (nn : Int) % 2 = 1 := by omega
      have y2 : ((nn : Int) % 2 == 1) = false := by simpa using y1
      have HAU2 : Hid (added HH l m d = l.take mm ++ [x]) := Lib.hid (by
        rw [HAD.out, HAU.out, addUp_even HH (by omega), List.reverse_reverse])
      have HFI : Hid (mm + 1 ≤ 1099511627776) := Lib.hid (by have h1 := hmm.out; have h2 := HKO.out; have h3 := HOL.out; omega)
      generalize added HH l m d = R at *
      have hc0 := HC0.out _ Y.a
      obtain rfl : mm = 0 := Nat.le_zero.1 hmm.out
      
      
      
      clear HAU HON hodd
      go_wp2_with (first
        | (refine build_k (.tmp 42) rfl rfl (n := (m : Int) + 1) rfl ?_)
        | (refine store_k (.tmp 9) (.tmp 43) rfl rfl wr.heap.size rfl (n := (m : Int) + 1) (A := none) (k := 0) (c := 0) rfl (pk_new wr 0 none 0 0 _).arr.there ?_; refine Hash.gen_world (Pq := fun W => Ac w W (m : Int) (some ad) 0 0 d g x wr.heap.size ((m : Int) + 1) none 0 0) (G := fun W => wpList _ _ _ _ _ W) ((ac_room Y _).put _ _ _ _) ?_; clear Y hc0; intro W3 Y))
      generalize wr.heap.size = g2 at *
      have HQ0 : Hid (∀ W, Ac w W (m : Int) (some ad) 0 0 d g x g2 ((m : Int) + 1) none 0 0 → W.cell? ⟨g2, 1, none⟩ = some (.slice none 0 0)) := Lib.hid (fun W h => h.o.roots)
      have HQ1 : Hid (∀ W, Ac w W (m : Int) (some ad) 0 0 d g x g2 ((m : Int) + 1) none 0 0 → W.cell? ⟨w.heap.size, 1, none⟩ = some (.slice (some ad) 0 0)) := Lib.hid (fun W h => HC1.out W h.b.a)
      refine QTail.region (C := fun W => Ac w W (m : Int) (some ad) 0 0 d g x g2 ((m : Int) + 1) none 0 0) 6 (by kernel_rfl) (by kernel_rfl) (Y.on (Hash.belowD _)) ?_
      (refine wpQuiet_step (fun K hK => ?_); go_simp; (first | refine hK _ ?_ | refine ⟨_, fun _ _ => rfl, hK _ ?_⟩); clear hK K)
      (refine wpQuiet_step (fun K hK => ?_); go_simp; refine ⟨(.slice none 0 0), fun W hW => ?_, hK _ ?_⟩; (first | (rw [HQ0.out W hW]; exact ⟨rfl, rfl⟩) | (rw [HQ0.out W hW]; rfl)); clear hK K)
      (refine wpQuiet_step (fun K hK => ?_); go_simp; (first | refine hK _ ?_ | refine ⟨_, fun _ _ => rfl, hK _ ?_⟩); clear hK K)
      (refine wpQuiet_step (fun K hK => ?_); go_simp; refine ⟨(.slice (some ad) 0 0), fun W hW => ?_, hK _ ?_⟩; (first | (rw [HQ1.out W hW]; exact ⟨rfl, rfl⟩) | (rw [HQ1.out W hW]; rfl)); clear hK K)
      (refine wpQuiet_step (fun K hK => ?_); go_simp; (first | refine hK _ ?_ | refine ⟨_, fun _ _ => rfl, hK _ ?_⟩); clear hK K)
      (refine wpQuiet_step (fun K hK => ?_); go_simp; refine ⟨(.slice (some ad) 0 0), fun W hW => ?_, hK _ ?_⟩; (first | exact ⟨rfl, rfl⟩ | rfl | (rw [if_pos (by omega)]; exact ⟨rfl, rfl⟩) | (rw [if_pos (by omega), if_neg (by omega)]; exact ⟨rfl, rfl⟩) | (rw [if_neg (by omega)]; exact ⟨rfl, rfl⟩)); clear hK K)
      refine wpQuiet_nil ?_
      clear Y
      intro w7 Y
      simp only [List.drop_succ_cons, List.drop_zero]
      have hg2 := Y.o.lt
      go_wp2_with (first
        | (at_builtin; refine append_ds rfl _ _ rfl w7.heap.size (.slice none 0 0) 0 [] rfl (ownD_nil _ _) (some ad) 0 0 rfl (l.take 0) (HTK.out _ Y.b.a.z _ hmm.out) (by rw [Nat.zero_add]; exact Nat.le_of_succ_le HFI.out) (Nat.le_refl _) ?_; intro v6 w6 ho6 hb6; rw [Nat.zero_add, List.nil_append] at ho6; obtain ⟨A6, c6, rfl, -⟩ := ho6.form; replace Y := Y.on hb6; have HO6 := Lib.hid ho6; have HS6 := Lib.hid hb6.size; obtain ⟨⟨u1, f0⟩, f1⟩ := Y.o.arr.some_ (i := 1) (by omega); clear ho6 hb6)
        | ((with_reducible refine Hash.at_slot 54 rfl ?_); refine Hash.gen_world (Pq := fun W => Ac w W (m : Int) (some ad) 0 0 d g x g2 ((m : Int) + 1) A6 0 c6 ∧ OwnD W w7.heap.size (.slice A6 0 c6) 0 (l.take 0) ∧ w7.heap.size ≤ W.heap.size) (G := fun W => wpList _ _ _ _ _ W) ⟨Y.set _ _ _, HO6.out.cells hg2 [.slice A6 0 c6] 1, (by have := HS6.out; simpa [World.setCell] using this)⟩ ?_; clear Y f0 f1; intro W8 Y8; obtain ⟨Y, ho8, hs8⟩ := Y8; have HO8 := Lib.hid ho8; have HS8 := Lib.hid hs8; clear ho8 hs8; refine load_d 54 rfl rfl _ rfl g 0 rfl x HXL.out Y.b.x.range ?_; unfold dv; have hXL := HXL.out; have hr1 := Y.o.roots)
        | (at_builtin; rw [Wire.fold_cells (cs := x.map bv) (m := 16) (by rw [List.length_map]; exact HXL.out) _ rfl]; refine append_d rfl (.tmp 53) (.tmp 55) rfl w7.heap.size (.slice A6 0 c6) 0 (l.take 0) rfl (HO8.out.on (Wire.b1 _ _)) W8.heap.size rfl x HXL.out (lit_range W8 HXL.out _) (Nat.le_of_succ_le HFI.out) (Nat.le_trans HS8.out (Wire.b1 W8 _).size) ?_; intro v9 w9 ho9 hb9; obtain ⟨A9, c9, rfl, -⟩ := ho9.form; replace Y := (Y.on (Wire.b1 _ _)).under hb9 hg2; have HO9 := Lib.hid ho9; obtain ⟨⟨u2, f2⟩, f3⟩ := Y.o.arr.some_ (i := 1) (by omega); clear ho9 hb9 hr1 hXL)
        | ((with_reducible refine Hash.at_slot 58 rfl ?_); refine Hash.gen_world (Pq := fun W => Ac w W (m : Int) (some ad) 0 0 d g x g2 ((m : Int) + 1) A9 (0 + 1) c9 ∧ OwnD W w7.heap.size (.slice A9 (0 + 1) c9) (0 + 1) (l.take 0 ++ [x])) (G := fun W => wpList _ _ _ _ _ W) ⟨Y.set _ _ _, HO9.out.cells hg2 [.slice A9 (0 + 1) c9] 1⟩ ?_; clear Y f2 f3; intro W10 Y10; obtain ⟨Y, ho10⟩ := Y10; have HO10 := Lib.hid ho10; clear ho10; refine load_k 58 rfl rfl _ rfl g2 rfl Y.o ?_; have hth : W10.there (w.heap.size + 1 + 1) 0 2 := (by obtain ⟨zs, hz⟩ := Y.b.a.r; exact hz.there))
        | (refine store_k (.tmp 4) (.tmp 58) rfl rfl (w.heap.size + 1 + 1) rfl (n := (m : Int) + 1) (A := A9) (k := 0 + 1) (c := c9) rfl hth ?_))
      have HE := Y.b.a.fin ((m : Int) + 1) A9 (0 + 1) c9
      have hfar1 := Y.far
      have hfar2 := Y.b.far
      obtain rfl := HAU2.out
      refine bodyPost_ret (v := .tuple #[pkv ((m : Int) + 1) A9 (0 + 1) c9, .int .i64 0]) ?_ rfl ⟨_, _, _, rfl, (HO10.out.cells (by omega) _ 0).more (by omega), HE.2⟩
      simp [results, Tryd.results32, asAddr]
      rw [HE.1]
      rfl

set_option maxRecDepth 100000 in
set_option maxHeartbeats 4000000 in
theorem refAdd_some (m : Nat) (b o k c : Nat) (d : List UInt8) (hd : d.length = 16) (l : List (List UInt8)) (h : pkOk (m : Int) k = true) (hm : m < 4294967296) (w : World) (hl : LiesD w w.heap.size (some ⟨b, o, none⟩) k c l) (ht : TT w) :
    Calls Tryd.prog 32 #[pkv (m : Int) (some ⟨b, o, none⟩) k c, dv d] w (GivesK ((m : Int) + 1) (added HH l m d) 0 w) := by
  have Y := aa_new w (m : Int) (some ⟨b, o, none⟩) k c hd 56 29 56
  have HV := Lib.hid (fun W => refValid_any (m : Int) (some ⟨b, o, none⟩) k c W)
  rw [h] at HV
  have hk : k = ones m := by
    unfold pkOk at h
    simp only [Bool.and_eq_true, decide_eq_true_eq, Int.toNat_natCast] at h
    exact h.2.2
  have hln := hl.len
  have hmost : c ≤ 9223372036854775807 := by have := hl.lies.most; unfold maxLen at this; omega
  have hle := hl.lies.le
  have HTT := Lib.hid ht
  have HD := Lib.hid hd
  have HLF := Lib.hid (fun W h => refLeaf_any d hd W h)
  have HLL := Lib.hid (leaf_length d)
  have HAD : Hid (added HH l m d = (addUp HH l.reverse m (HH.leaf d)).1.reverse ++ [(addUp HH l.reverse m (HH.leaf d)).2]) := Lib.hid rfl
  have HOL : Hid (ones m ≤ 4294967296) := Lib.hid (Nat.le_trans (ones_le m) (Nat.le_of_lt hm))
  generalize HH.leaf d = x0 at *
  have HC1 : Hid (∀ W, Aa w W (m : Int) (some ⟨b, o, none⟩) k c d → W.cell? ⟨w.heap.size, 1, none⟩ = some (.slice (some ⟨b, o, none⟩) k c)) := Lib.hid (fun W h => h.p.roots)
  have HC0 : Hid (∀ W, Aa w W (m : Int) (some ⟨b, o, none⟩) k c d → W.cell? ⟨w.heap.size, 0, none⟩ = some (.int .i64 (m : Int))) := Lib.hid (fun W h => h.p.size)
  have HND : Hid (∀ y d, y.length = 16 → d.length = 16 → ∀ W, TT W → Calls Tryd.prog 45 #[.agg (y.map bv).toArray, .agg (d.map bv).toArray] W (GivesD (HH.node y d) W)) := Lib.hid (fun y d hy hd W h => refNode_any y d hy hd W h)
  have HRR : Hid (∀ W, Below w.heap.size w W → ∀ (i : Nat) (y : List UInt8), l[i]? = some y → W.rangeAt b (o + i * 16) (y.map bv)) := Lib.hid (fun W h i y hy => by
    obtain ⟨b', o', e, hb', hr'⟩ := hl.row hy
    simp only [Option.some.injEq, Addr.mk.injEq, and_true] at e
    obtain ⟨rfl, rfl⟩ := e
    exact fun j u hu => (h.cell (by show b < w.heap.size; exact hb')).trans (hr' j u hu))
  have HRK : Hid (Ok l) := Lib.hid hl.ok
  have HLN := Lib.hid hln
  have HTK : Hid (∀ W, Below w.heap.size w W → ∀ mm, mm ≤ k → LiesD W W.heap.size (some ⟨b, o, none⟩) mm c (l.take mm)) := Lib.hid (fun W h mm hmm => ((hl.take hmm).below h).more h.size)
  have e6 : wrap64 ((m : Int) + 1) = (m : Int) + 1 := by simp only [wrap64]; omega
  have e7 : ¬ (m : Int) = 4294967296 := by omega
  have e8 : ((m : Int) == 4294967296) = false := by simpa using e7
  have hm2 : m ≤ 4294967296 := Nat.le_of_lt hm
  have HKO := Lib.hid hk
  clear h ht hl hln hd hk hm
  unfold pkv at HV ⊢
  unfold dv
  go_enter Tryd.func32, Tryd.ntmps32
  go_wp2_with (first
    | (go_at_call 57; (with_reducible refine (HV.out _).mono ?_); rintro e w1 ⟨rfl, hb⟩; replace Y := Y.on hb; clear hb; have hc0 := HC0.out _ Y)
    | (refine load_d 19 rfl rfl _ rfl (w.heap.size + 1) 0 rfl d HD.out Y.d.range ?_)
    | (go_at_call 44; (with_reducible refine (HLF.out _ (HTT.out.on Y.z)).mono ?_); rintro e w2 ⟨rfl, hb⟩; replace Y := Y.on hb; clear hb)
    | (refine store_d (.tmp 6) (.tmp 20) rfl rfl w2.heap.size 0 rfl x0 rfl HLL.out (ab_room Y _).x.there ?_; refine Hash.gen_world (Pq := fun W => Ab w W (m : Int) (some ⟨b, o, none⟩) k c d w2.heap.size x0) (G := fun W => wpList _ _ _ _ _ W) ((ab_room Y _).put HLL.out) ?_; clear Y hc0; intro W2 Y; have hc0 := HC0.out _ Y.a; have hc1 := HC1.out _ Y.a))
  generalize w2.heap.size = g at *
  go_loopw [7, 8] (fun nv kv wr => ∃ (nn mm : Nat) (x : List UInt8), nn ≤ 4294967296 ∧ Hid (mm ≤ k) ∧ nv = .int .i64 (nn : Int) ∧ kv = .int .i64 (mm : Int) ∧ Hid (mm = ones nn) ∧ Hid (x.length = 16) ∧ Hid (addUp HH l.reverse m x0 = addUp HH (l.take mm).reverse nn x) ∧ Ab w wr (m : Int) (some ⟨b, o, none⟩) k c d g x) (fun nv _ _ => (intOf nv).toNat)
  case atStart => exact ⟨m, k, x0, hm2, Lib.hid (Nat.le_refl _), rfl, rfl, HKO, HLL, Lib.hid (by rw [List.take_of_length_le (Nat.le_of_eq HLN.out)]), Y⟩
  case round =>
    clear Y hc0 hc1
    obtain ⟨nn, mm, x, hnn, hmm, rfl, rfl, HON, HXL, HAU, Y⟩ := hrel
    by_cases hodd : nn % 2 = 1
    · have hone : ones nn = 1 + ones (nn / 2) := by rw [ones_half, hodd]
      obtain ⟨i, rfl⟩ : ∃ i, mm = i + 1 := ⟨mm - 1, by have := HON.out; omega⟩
      obtain ⟨y, hy⟩ : ∃ y, l[i]? = some y := ⟨_, List.getElem?_eq_getElem (by rw [HLN.out]; exact hmm.out)⟩
      have HY := Lib.hid (HRK.out.at_ hy)
      have HRY : Hid (∀ W, Ab w W (m : Int) (some ⟨b, o, none⟩) k c d g x → W.rangeAt b (o + i * 16) (y.map bv)) := Lib.hid (fun W h => HRR.out W h.a.z i y hy)
      have HC2 : Hid (∀ W, Ab w W (m : Int) (some ⟨b, o, none⟩) k c d g x → W.cell? ⟨w.heap.size, 1, none⟩ = some (.slice (some ⟨b, o, none⟩) k c)) := Lib.hid (fun W h => HC1.out W h.a)
      have HN2 : Hid (∀ W, Ab w W (m : Int) (some ⟨b, o, none⟩) k c d g x → Calls Tryd.prog 45 #[.agg (y.map bv).toArray, .agg (x.map bv).toArray] W (GivesD (HH.node y x) W)) := Lib.hid (fun W h => HND.out y x HY.out HXL.out W (HTT.out.on h.a.z))
      have HNL := Lib.hid (node_length y x)
      have HAU2 : Hid (addUp HH l.reverse m x0 = addUp HH (l.take i).reverse (nn / 2) (HH.node y x)) := Lib.hid (by
        rw [HAU.out, List.take_add_one, hy, Option.toList_some, List.reverse_append, List.reverse_singleton, List.singleton_append, addUp_odd HH hodd])
      have HON2 : Hid (i = ones (nn / 2)) := Lib.hid (by have := HON.out; omega)
      generalize HH.node y x = x2 at *
      have z0 : (0 : Int) ≤ (i : Int) := by omega
      have z3 : ((i + 1 : Nat) : Int) - 1 = (i : Int) := by omega
      have z4 : i < k := hmm.out
      have z1 : (i : Int) < (k : Int) := by omega
      have y1 : (nn : Int) % 2 = 1 := by omega
      have y2 : ((nn : Int) % 2 == 1) = true := by simpa using y1
      clear hy HAU HON hone hodd
      go_wp2
      refine QTail.region (C := fun W => Ab w W (m : Int) (some ⟨b, o, none⟩) k c d g x) 7 (by kernel_rfl) (by kernel_rfl) (Y.on (Hash.belowD _)) ?_
      (refine wpQuiet_step (fun K hK => ?_); go_simp; (first | refine hK _ ?_ | refine ⟨_, fun _ _ => rfl, hK _ ?_⟩); clear hK K)
      (refine wpQuiet_step (fun K hK => ?_); go_simp; refine ⟨(.slice (some ⟨b, o, none⟩) k c), fun W hW => ?_, hK _ ?_⟩; (first | (rw [HC2.out W hW]; exact ⟨rfl, rfl⟩) | (rw [HC2.out W hW]; rfl)); clear hK K)
      (refine wpQuiet_step (fun K hK => ?_); go_simp; (first | refine hK _ ?_ | refine ⟨_, fun _ _ => rfl, hK _ ?_⟩); clear hK K)
      (refine wpQuiet_step (fun K hK => ?_); go_simp; refine ⟨.pointer (some ⟨b, o + i * 16, none⟩), fun W hW => ?_, hK _ ?_⟩; (first | (rw [if_pos (by omega)]; exact ⟨rfl, rfl⟩) | (rw [if_pos (by omega)]; rfl) | exact ⟨rfl, rfl⟩ | rfl); clear hK K)
      refine QTail.loadC (by rfl) 29 (.tmp 34) rfl b (o + i * 16) rfl (y.map bv) _ HRY.out und_d rfl (info_d HY.out) ?_
      refine QTail.loadC (by rfl) 29 (.tmp 6) rfl g 0 rfl (x.map bv) _ (fun W h => h.x.range) und_d rfl (info_d HXL.out) ?_
      (refine wpQuiet_step (fun K hK => ?_); go_simp; refine ⟨_, fun W hW => (HN2.out W hW).mono fun e w' ⟨he, hb⟩ => ⟨he, hW.on hb⟩, hK _ ?_⟩; clear hK K)
      refine wpQuiet_nil ?_
      clear Y
      intro w7 Y
      simp only [List.drop_succ_cons, List.drop_zero]
      go_wp2_with (first
        | (refine store_d (.tmp 6) (.tmp 37) rfl rfl g 0 rfl x2 rfl HNL.out Y.x.there ?_; refine Hash.gen_world (Pq := fun W => Ab w W (m : Int) (some ⟨b, o, none⟩) k c d g x2) (G := fun W => wpList _ _ _ _ _ W) (Y.put HNL.out) ?_; clear Y; intro W2 Y))
      go_roundw
      case rel => exact ⟨nn / 2, i, x2, by omega, Lib.hid (Nat.le_of_lt z4), by congr 1, rfl, HON2, HNL, HAU2, Y⟩
      case measure => simp [intOf]; omega
    · have y1 : ¬ (nn : Int) % 2 = 1 := by omega
      have y2 : ((nn : Int) % 2 == 1) = false := by simpa using y1
      have HAU2 : Hid (added HH l m d = l.take mm ++ [x]) := Lib.hid (by
        rw [HAD.out, HAU.out, addUp_even HH (by omega), List.reverse_reverse])
      have HFI : Hid (mm + 1 ≤ 1099511627776) := Lib.hid (by have h1 := hmm.out; have h2 := HKO.out; have h3 := HOL.out; omega)
      generalize added HH l m d = R at *
      have hc0 := HC0.out _ Y.a
      have z4 := hmm.out
      have z5 : (0 : Int) ≤ (mm : Int) := by omega
      have z6 : (mm : Int) ≤ (c : Int) := by omega
      have z7 : mm ≤ c := by omega
      clear HAU HON hodd
      go_wp2_with (first
        | (refine build_k (.tmp 42) rfl rfl (n := (m : Int) + 1) rfl ?_)
        | (refine store_k (.tmp 9) (.tmp 43) rfl rfl wr.heap.size rfl (n := (m : Int) + 1) (A := none) (k := 0) (c := 0) rfl (pk_new wr 0 none 0 0 _).arr.there ?_; refine Hash.gen_world (Pq := fun W => Ac w W (m : Int) (some ⟨b, o, none⟩) k c d g x wr.heap.size ((m : Int) + 1) none 0 0) (G := fun W => wpList _ _ _ _ _ W) ((ac_room Y _).put _ _ _ _) ?_; clear Y hc0; intro W3 Y))
      generalize wr.heap.size = g2 at *
      have HQ0 : Hid (∀ W, Ac w W (m : Int) (some ⟨b, o, none⟩) k c d g x g2 ((m : Int) + 1) none 0 0 → W.cell? ⟨g2, 1, none⟩ = some (.slice none 0 0)) := Lib.hid (fun W h => h.o.roots)
      have HQ1 : Hid (∀ W, Ac w W (m : Int) (some ⟨b, o, none⟩) k c d g x g2 ((m : Int) + 1) none 0 0 → W.cell? ⟨w.heap.size, 1, none⟩ = some (.slice (some ⟨b, o, none⟩) k c)) := Lib.hid (fun W h => HC1.out W h.b.a)
      refine QTail.region (C := fun W => Ac w W (m : Int) (some ⟨b, o, none⟩) k c d g x g2 ((m : Int) + 1) none 0 0) 6 (by kernel_rfl) (by kernel_rfl) (Y.on (Hash.belowD _)) ?_
      (refine wpQuiet_step (fun K hK => ?_); go_simp; (first | refine hK _ ?_ | refine ⟨_, fun _ _ => rfl, hK _ ?_⟩); clear hK K)
      (refine wpQuiet_step (fun K hK => ?_); go_simp; refine ⟨(.slice none 0 0), fun W hW => ?_, hK _ ?_⟩; (first | (rw [HQ0.out W hW]; exact ⟨rfl, rfl⟩) | (rw [HQ0.out W hW]; rfl)); clear hK K)
      (refine wpQuiet_step (fun K hK => ?_); go_simp; (first | refine hK _ ?_ | refine ⟨_, fun _ _ => rfl, hK _ ?_⟩); clear hK K)
      (refine wpQuiet_step (fun K hK => ?_); go_simp; refine ⟨(.slice (some ⟨b, o, none⟩) k c), fun W hW => ?_, hK _ ?_⟩; (first | (rw [HQ1.out W hW]; exact ⟨rfl, rfl⟩) | (rw [HQ1.out W hW]; rfl)); clear hK K)
      (refine wpQuiet_step (fun K hK => ?_); go_simp; (first | refine hK _ ?_ | refine ⟨_, fun _ _ => rfl, hK _ ?_⟩); clear hK K)
      (refine wpQuiet_step (fun K hK => ?_); go_simp; refine ⟨(.slice (some ⟨b, o, none⟩) mm c), fun W hW => ?_, hK _ ?_⟩; (first | exact ⟨rfl, rfl⟩ | rfl | (rw [if_pos (by omega)]; exact ⟨rfl, rfl⟩) | (rw [if_pos (by omega), if_neg (by omega)]; exact ⟨rfl, rfl⟩) | (rw [if_neg (by omega)]; exact ⟨rfl, rfl⟩)); clear hK K)
      refine wpQuiet_nil ?_
      clear Y
      intro w7 Y
      simp only [List.drop_succ_cons, List.drop_zero]
      have hg2 := Y.o.lt
      go_wp2_with (first
        | (at_builtin; refine append_ds rfl _ _ rfl w7.heap.size (.slice none 0 0) 0 [] rfl (ownD_nil _ _) (some ⟨b, o, none⟩) mm c rfl (l.take mm) (HTK.out _ Y.b.a.z _ hmm.out) (by rw [Nat.zero_add]; exact Nat.le_of_succ_le HFI.out) (Nat.le_refl _) ?_; intro v6 w6 ho6 hb6; rw [Nat.zero_add, List.nil_append] at ho6; obtain ⟨A6, c6, rfl, -⟩ := ho6.form; replace Y := Y.on hb6; have HO6 := Lib.hid ho6; have HS6 := Lib.hid hb6.size; obtain ⟨⟨u1, f0⟩, f1⟩ := Y.o.arr.some_ (i := 1) (by omega); clear ho6 hb6)
        | ((with_reducible refine Hash.at_slot 54 rfl ?_); refine Hash.gen_world (Pq := fun W => Ac w W (m : Int) (some ⟨b, o, none⟩) k c d g x g2 ((m : Int) + 1) A6 mm c6 ∧ OwnD W w7.heap.size (.slice A6 mm c6) mm (l.take mm) ∧ w7.heap.size ≤ W.heap.size) (G := fun W => wpList _ _ _ _ _ W) ⟨Y.set _ _ _, HO6.out.cells hg2 [.slice A6 mm c6] 1, (by have := HS6.out; simpa [World.setCell] using this)⟩ ?_; clear Y f0 f1; intro W8 Y8; obtain ⟨Y, ho8, hs8⟩ := Y8; have HO8 := Lib.hid ho8; have HS8 := Lib.hid hs8; clear ho8 hs8; refine load_d 54 rfl rfl _ rfl g 0 rfl x HXL.out Y.b.x.range ?_; unfold dv; have hXL := HXL.out; have hr1 := Y.o.roots)
        | (at_builtin; rw [Wire.fold_cells (cs := x.map bv) (m := 16) (by rw [List.length_map]; exact HXL.out) _ rfl]; refine append_d rfl (.tmp 53) (.tmp 55) rfl w7.heap.size (.slice A6 mm c6) mm (l.take mm) rfl (HO8.out.on (Wire.b1 _ _)) W8.heap.size rfl x HXL.out (lit_range W8 HXL.out _) (Nat.le_of_succ_le HFI.out) (Nat.le_trans HS8.out (Wire.b1 W8 _).size) ?_; intro v9 w9 ho9 hb9; obtain ⟨A9, c9, rfl, -⟩ := ho9.form; replace Y := (Y.on (Wire.b1 _ _)).under hb9 hg2; have HO9 := Lib.hid ho9; obtain ⟨⟨u2, f2⟩, f3⟩ := Y.o.arr.some_ (i := 1) (by omega); clear ho9 hb9 hr1 hXL)
        | ((with_reducible refine Hash.at_slot 58 rfl ?_); refine Hash.gen_world (Pq := fun W => Ac w W (m : Int) (some ⟨b, o, none⟩) k c d g x g2 ((m : Int) + 1) A9 (mm + 1) c9 ∧ OwnD W w7.heap.size (.slice A9 (mm + 1) c9) (mm + 1) (l.take mm ++ [x])) (G := fun W => wpList _ _ _ _ _ W) ⟨Y.set _ _ _, HO9.out.cells hg2 [.slice A9 (mm + 1) c9] 1⟩ ?_; clear Y f2 f3; intro W10 Y10; obtain ⟨Y, ho10⟩ := Y10; have HO10 := Lib.hid ho10; clear ho10; refine load_k 58 rfl rfl _ rfl g2 rfl Y.o ?_; have hth : W10.there (w.heap.size + 1 + 1) 0 2 := (by obtain ⟨zs, hz⟩ := Y.b.a.r; exact hz.there))
        | (refine store_k (.tmp 4) (.tmp 58) rfl rfl (w.heap.size + 1 + 1) rfl (n := (m : Int) + 1) (A := A9) (k := mm + 1) (c := c9) rfl hth ?_))
      have HE := Y.b.a.fin ((m : Int) + 1) A9 (mm + 1) c9
      have hfar1 := Y.far
      have hfar2 := Y.b.far
      obtain rfl := HAU2.out
      refine bodyPost_ret (v := .tuple #[pkv ((m : Int) + 1) A9 (mm + 1) c9, .int .i64 0]) ?_ rfl ⟨_, _, _, rfl, (HO10.out.cells (by omega) _ 0).more (by omega), HE.2⟩
      simp [results, Tryd.results32, asAddr]
      rw [HE.1]
      rfl
end Mk
end Go.Proofs.YthpkeaafgabjiaaDoor

