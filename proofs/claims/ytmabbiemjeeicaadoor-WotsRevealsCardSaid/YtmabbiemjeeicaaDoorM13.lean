/- WoB; WoD; WoRD: what each of these parts proves stands ahead of it. -/
import Derived.Test.YtmabbiemjeeicaaDoorZDig
import Derived.Test.YtmabbiemjeeicaaDoorZHRefT
import Derived.Test.YtmabbiemjeeicaaDoorZWoM
import Derived.Test.YtmabbiemjeeicaaDoorM7
import Derived.ChangeKeysEq
/- Words of the walks over wots: tables, lists of digits, the blocks that Advance works on, the hash inputs of a chain. No condition. -/
namespace Go.Proofs.YtmabbiemjeeicaaDoor
open Go.RowKit
namespace Wo
open Mk (dv Dg GivesD dg_new dg_zero)
open Wire (bv sv Lies enc encStr)
open Hash (Table GivesT tabj bcj ofDig ofIn)

/-- The table of the package; both tables. -/
structure TP (w : World) : Prop where
  a : Table 1 w
structure TT (w : World) : Prop where
  p : TP w
  b : Table 0 w
section
variable {w w' W W' : World}
theorem TP.on (h : TP w) (hb : Below w.heap.size w w') : TP w' := ⟨tabj h.a hb⟩
theorem TT.on (h : TT w) (hb : Below w.heap.size w w') : TT w' := ⟨h.p.on hb, tabj h.b hb⟩
end
def nv (n : Nat) : Value := .int .i64 (n : Int)
/-- A list of numbers is returned. -/
def GivesL (l : List Nat) (w : World) (e : Ending) (w' : World) : Prop := ∃ A n c, e = .returned (.slice A n c) ∧ Lies w' w'.heap.size 1 A n c (l.map nv) ∧ Below w.heap.size w w'
def GivesB (b : Bool) (w : World) (e : Ending) (w' : World) : Prop := e = .returned (.bool b) ∧ Below w.heap.size w w'

theorem enc_le {n : Nat} (h : n ≤ 1000) : (enc (n : Int)).length ≤ 9 := (Wire.enc_length_le (n := (n : Int)) (by omega)).2
theorem encStr_le {s : List UInt8} (h : s.length ≤ 1000) : (encStr s).length ≤ s.length + 9 := by
  have h1 := enc_le (n := s.length) (by omega)
  unfold Wire.encStr
  rw [List.length_append]
  omega
theorem lit1 (w : World) (a : List UInt8) : Lies (w.alloc (.cells #[.string ⟨a.toArray⟩] 9)) (w.alloc (.cells #[.string ⟨a.toArray⟩] 9)).heap.size 1 (some ⟨w.heap.size, 0, none⟩) 1 1 ([a].map sv) :=
  Wire.lies_lit w _ _ ([a].map sv) rfl (by simp [maxLen])
theorem lit3 (w : World) (a b c : List UInt8) : Lies (w.alloc (.cells #[.string ⟨a.toArray⟩, .string ⟨b.toArray⟩, .string ⟨c.toArray⟩] 9)) (w.alloc (.cells #[.string ⟨a.toArray⟩, .string ⟨b.toArray⟩, .string ⟨c.toArray⟩] 9)).heap.size 1 (some ⟨w.heap.size, 0, none⟩) 3 3 ([a, b, c].map sv) :=
  Wire.lies_lit w _ _ ([a, b, c].map sv) rfl (by simp [maxLen])
theorem pOf1 (t : Int) (s : List UInt8) (hs : s.length ≤ 1000) (w : World) (ht : TP w) :
    Calls Tryd.prog 34 #[.int .i64 t, .slice (some ⟨w.heap.size, 0, none⟩) 1 1] (w.alloc (.cells #[.string ⟨s.toArray⟩] 9)) (GivesD (ofDig t [s]) w) := by
  have hb := Wire.b1 w (.cells #[.string ⟨s.toArray⟩] 9)
  exact (Hash.of_any t [s] 1 1 _ _ (lit1 w s) (fun x hx => by
    rw [List.mem_singleton.1 hx]
    have := encStr_le hs
    omega) (ht.on hb).a).mono fun e w' ⟨h1, h2⟩ => ⟨h1, bcj hb h2⟩
theorem rOf1 (t : Int) (s : List UInt8) (hs : s.length ≤ 1000) (w : World) (ht : TT w) :
    Calls Tryd.prog 24 #[.int .i64 t, .slice (some ⟨w.heap.size, 0, none⟩) 1 1] (w.alloc (.cells #[.string ⟨s.toArray⟩] 9)) (GivesD (ofDig t [s]) w) := by
  have hb := Wire.b1 w (.cells #[.string ⟨s.toArray⟩] 9)
  exact (Hash.refOf_any t [s] 1 1 _ _ (lit1 w s) (by
    have := encStr_le hs
    simp [ofIn]
    omega) (ht.on hb).b).mono fun e w' ⟨h1, h2⟩ => ⟨h1, bcj hb h2⟩
theorem pLink (k h : Nat) (v : List UInt8) (hk : k ≤ 34) (hh : h ≤ 15) (hv : v.length = 16) (w : World) (ht : TP w) :
    Calls Tryd.prog 34 #[.int .i64 4, .slice (some ⟨w.heap.size, 0, none⟩) 3 3] (w.alloc (.cells #[.string ⟨(enc (k : Int)).toArray⟩, .string ⟨(enc (h : Int)).toArray⟩, .string ⟨v.toArray⟩] 9)) (GivesD (link k h v) w) := by
  have hb := Wire.b1 w (.cells #[.string ⟨(enc (k : Int)).toArray⟩, .string ⟨(enc (h : Int)).toArray⟩, .string ⟨v.toArray⟩] 9)
  have l1 := enc_le (n := k) (by omega)
  have l2 := enc_le (n := h) (by omega)
  exact (Hash.of_any 4 [enc (k : Int), enc (h : Int), v] 3 3 _ _ (lit3 w _ _ _) (fun x hx => by
    have hx2 : x.length ≤ 1000 := by
      simp only [List.mem_cons, List.not_mem_nil, or_false] at hx
      rcases hx with rfl | rfl | rfl <;> omega
    have := encStr_le hx2
    omega) (ht.on hb).a).mono fun e w' ⟨h1, h2⟩ => ⟨h1, bcj hb h2⟩
theorem rLink (k h : Nat) (v : List UInt8) (hk : k ≤ 34) (hh : h ≤ 15) (hv : v.length = 16) (w : World) (ht : TT w) :
    Calls Tryd.prog 24 #[.int .i64 4, .slice (some ⟨w.heap.size, 0, none⟩) 3 3] (w.alloc (.cells #[.string ⟨(enc (k : Int)).toArray⟩, .string ⟨(enc (h : Int)).toArray⟩, .string ⟨v.toArray⟩] 9)) (GivesD (link k h v) w) := by
  have hb := Wire.b1 w (.cells #[.string ⟨(enc (k : Int)).toArray⟩, .string ⟨(enc (h : Int)).toArray⟩, .string ⟨v.toArray⟩] 9)
  have l1 := enc_le (n := k) (by omega)
  have l2 := enc_le (n := h) (by omega)
  exact (Hash.refOf_any 4 [enc (k : Int), enc (h : Int), v] 3 3 _ _ (lit3 w _ _ _) (by
    have e1 := encStr_le (s := enc (k : Int)) (by omega)
    have e2 := encStr_le (s := enc (h : Int)) (by omega)
    have e3 := encStr_le (s := v) (by omega)
    simp [ofIn]
    omega) (ht.on hb).b).mono fun e w' ⟨h1, h2⟩ => ⟨h1, bcj hb h2⟩

/-- The value in one block, room for the result in the next. -/
structure Bx (w W : World) (v : List UInt8) : Prop where
  p : Dg W w.heap.size v
  r : Dg W (w.heap.size + 1) zero
  z : Below w.heap.size w W
section
variable {w W W' : World} {v u : List UInt8}
theorem Bx.on (h : Bx w W v) (hb : Below W.heap.size W W') : Bx w W' v := ⟨h.p.on hb, h.r.on hb, bcj h.z hb⟩
theorem Bx.put (h : Bx w W v) (hu : u.length = 16) : Bx w (W.setCells w.heap.size 0 (u.map bv)) u :=
  ⟨h.p.put hu, h.r.aside (by omega) _, h.z.trans (Hash.below_cells (Nat.le_refl _) _ _ _)⟩
theorem bx_new (w : World) (hv : v.length = 16) (t u : TypeId) :
    Bx w ((w.alloc (.cells (v.map bv).toArray t)).alloc (.cells #[.int .u8 0, .int .u8 0, .int .u8 0, .int .u8 0, .int .u8 0, .int .u8 0, .int .u8 0, .int .u8 0, .int .u8 0, .int .u8 0, .int .u8 0, .int .u8 0, .int .u8 0, .int .u8 0, .int .u8 0, .int .u8 0] u)) v := by
  have P0 := dg_new w hv t
  have R0 := dg_zero (w.alloc (.cells (v.map bv).toArray t)) u
  have b0 := Wire.b1 w (.cells (v.map bv).toArray t)
  have b1 := Wire.b1 (w.alloc (.cells (v.map bv).toArray t)) (.cells #[.int .u8 0, .int .u8 0, .int .u8 0, .int .u8 0, .int .u8 0, .int .u8 0, .int .u8 0, .int .u8 0, .int .u8 0, .int .u8 0, .int .u8 0, .int .u8 0, .int .u8 0, .int .u8 0, .int .u8 0, .int .u8 0] u)
  rw [Wire.size_alloc] at R0
  exact ⟨P0.on b1, R0, bcj b0 b1⟩
end
/-- An encoding that was made reads as it did. -/
theorem made_lies {w w1 w' : World} {g n c : Nat} {l : List UInt8} (h : w1.ownsRow w.heap.size 5 1 (.slice (some ⟨g, 0, none⟩) n c) n (l.map bv)) (hb : Below w1.heap.size w1 w') : Lies w' w'.heap.size 1 (some ⟨g, 0, none⟩) n c (l.map bv) :=
  (Wire.lies_own h).on hb
end Wo
end Go.Proofs.YtmabbiemjeeicaaDoor

/- The package wots: Digits. Condition: the digest has 16 bytes. -/
namespace Go.Proofs.YtmabbiemjeeicaaDoor
open Go.RowKit
namespace Wo
open Mk (dv Dg GivesD dg_new dg_zero dg_end store_d load_d und_d info_d one_d info_dA)
open Wire (bv sv Lies enc Made)
open Hash (Table GivesT tabj bcj ofDig Arr)

/-- The digits so far, in room for all. -/
def tab (d : List UInt8) (k : Nat) : List Nat := flat (d.take k) ++ List.replicate (35 - 2 * k) 0
theorem flat_take {d : List UInt8} {k : Nat} (h : k ≤ d.length) : (flat (d.take k)).length = 2 * k := by rw [flat_length, List.length_take, Nat.min_eq_left h]
theorem tab_length {d : List UInt8} {k : Nat} (hd : d.length = 16) (h : k ≤ 16) : (tab d k).length = 35 := by
  unfold tab
  rw [List.length_append, flat_take (by omega), List.length_replicate]; omega
theorem flat_snoc {d : List UInt8} {k : Nat} {x : UInt8} (hx : d[k]? = some x) : flat (d.take (k + 1)) = flat (d.take k) ++ [x.toNat / 16, x.toNat % 16] := by
  rw [List.take_add_one, hx, flat_append]; rfl
theorem csum_snoc {d : List UInt8} {k : Nat} {x : UInt8} (hx : d[k]? = some x) : csum (d.take (k + 1)) = csum (d.take k) + lack x := by
  rw [List.take_add_one, hx, csum_append]; rfl
theorem tab_set {d : List UInt8} {k : Nat} {x : UInt8} (hd : d.length = 16) (hk : k < 16) (hx : d[k]? = some x) : ((tab d k).set (2 * k) (x.toNat / 16)).set (2 * k + 1) (x.toNat % 16) = tab d (k + 1) := by
  unfold tab
  have hl := flat_take (d := d) (k := k) (by omega)
  rw [List.set_append_right _ _ (by omega), List.set_append_right _ _ (by omega), hl, Nat.sub_self, show 2 * k + 1 - 2 * k = 1 by omega, show 35 - 2 * k = (35 - 2 * (k + 1)) + 1 + 1 by omega, flat_snoc hx]
  simp [List.replicate_succ]
theorem idx_d {d : List UInt8} {k : Nat} {x : UInt8} (hx : d[k]? = some x) (hk : k < 16) (W : World) : (Instr.index 23 (dv d) (.int .i64 (k : Int))).run Tryd.prog W = .ok (.int .u8 (x.toNat : Int)) W := by
  have hp : (Go.part 5 (d.map bv).toArray k).run Tryd.prog W = .ok (.int .u8 (x.toNat : Int)) W := run_part_plain W (by kernel_rfl) (by simp [hx, bv])
  simp only [dv]
  simp [Instr.index, asIntOf, run_underlying und_d, hp]
  intro h
  omega
structure Db (w W : World) (l : List Nat) : Prop where
  a : Arr W (w.heap.size + 1) 35 (l.map nv)
  z : Below w.heap.size w W
theorem Db.set {w W : World} {l : List Nat} (h : Db w W l) {i : Nat} (hi : i < 35) (x : Nat) : Db w (W.setCell ⟨w.heap.size + 1, i, none⟩ (.int .i64 (x : Int))) (l.set i x) := by
  refine ⟨?_, h.z.setCell (by simp) _⟩
  rw [List.map_set]
  exact h.a.set hi (nv x)

theorem db_new (w : World) (A : Obj) (cs : Array Value) (t : TypeId) (h : cs.toList = (List.replicate 35 0).map nv) : Db w ((w.alloc A).alloc (.cells cs t)) (List.replicate 35 0) := by
  refine ⟨?_, bcj (Wire.b1 w A) (Wire.b1 _ _)⟩
  have h1 := Hash.arr_new (w.alloc A) cs t
  have h2 : cs.size = 35 := by rw [← Array.length_toList, h]; rfl
  rw [h2, h, Wire.size_alloc] at h1
  exact h1

set_option maxRecDepth 100000 in
set_option maxHeartbeats 1000000 in
theorem digits_any (d : List UInt8) (hd : d.length = 16) (w : World) : Calls Tryd.prog 13 #[dv d] w (GivesL (digs d) w) := by
  have P0 := dg_new w hd 23
  have HR : Hid (∀ O, ((w.alloc (.cells (d.map bv).toArray 23)).alloc O).rangeAt w.heap.size 0 (d.map bv)) := Lib.hid (fun O => (P0.on (Wire.b1 _ O)).range)
  have HD := Lib.hid hd
  clear hd P0
  unfold dv
  go_enter Tryd.func13, Tryd.ntmps13
  go_wp2_with (first
    | (refine load_d 10 rfl rfl (.tmp 1) rfl w.heap.size 0 rfl d HD.out (HR.out _) ?_))
  go_loopw [4, 11] (fun cv iv wr => ∃ (k : Nat), k ≤ 16 ∧ cv = .int .i64 (csum (d.take k) : Int) ∧ iv = .int .i64 (k : Int) ∧ Db w wr (tab d k)) (fun _ iv _ => (16 - intOf iv).toNat)
  case atStart => exact ⟨0, by omega, rfl, rfl, db_new w _ _ _ rfl⟩
  case round =>
    obtain ⟨k, hk, rfl, rfl, Y⟩ := hrel
    by_cases hlt : k < 16
    · obtain ⟨x, hx⟩ : ∃ x, d[k]? = some x := ⟨_, List.getElem?_eq_getElem (by rw [HD.out]; exact hlt)⟩
      have hix := fun W => idx_d hx hlt W
      have z0 : (0 : Int) ≤ (k : Int) := by omega
      have z1 : (k : Int) < 16 := by omega
      have hset := tab_set HD.out hlt hx
      have hcs := csum_snoc hx
      have hcl := csum_le (d.take k)
      rw [List.length_take, HD.out] at hcl
      have hc2 : csum (d.take k) ≤ 480 := by omega
      have hxl := x.toNat_lt
      obtain ⟨hi, hhi⟩ : ∃ n, n = x.toNat / 16 := ⟨_, rfl⟩
      obtain ⟨lo, hlo⟩ : ∃ n, n = x.toNat % 16 := ⟨_, rfl⟩
      have e1 : (x.toNat : Int) / 16 = (hi : Int) := by omega
      have e2 : (x.toNat : Int) % 16 = (lo : Int) := by omega
      have l1 : hi ≤ 15 := by omega
      have l2 : lo ≤ 15 := by omega
      have hcs2 : csum (d.take (k + 1)) = csum (d.take k) + (30 - hi - lo) := by rw [hcs]; unfold lack; omega
      rw [← hhi, ← hlo] at hset
      have HC := Lib.hid hcs2
      have HS := Lib.hid hset
      generalize csum (d.take k) = c at hc2 HC
      clear hcs hset hhi hlo hcs2 hcl hx hxl
      have hYl := Lib.hid Y
      obtain ⟨⟨q0, q1⟩, q2⟩ := Y.a.some_ (i := 2 * k) (by omega)
      obtain ⟨⟨q3, q4⟩, q5⟩ := Y.a.some_ (i := 2 * k + 1) (by omega)
      have HF : Hid (Db w ((wr.setCell ⟨w.heap.size + 1, 2 * k, none⟩ (.int .i64 (hi : Int))).setCell ⟨w.heap.size + 1, 2 * k + 1, none⟩ (.int .i64 (lo : Int))) (tab d (k + 1))) := Lib.hid (by
        rw [← HS.out]
        exact (Y.set (by omega) hi).set (by omega) lo)
      clear Y
      go_wp2
      go_roundw
      case rel => exact ⟨k + 1, by omega, by rw [HC.out]; go_num, by go_num, HF.out⟩
      case measure => simp [intOf]; omega
    · have z1 : ¬ (k : Int) < 16 := by omega
      obtain rfl : k = 16 := by omega
      have hfl : (flat d).length = 32 := by rw [flat_length, HD.out]
      have htk : d.take 16 = d := List.take_of_length_le (by rw [HD.out]; omega)
      have htab : tab d 16 = flat d ++ [0, 0, 0] := by unfold tab; rw [htk]; rfl
      have hcl := csum_le d
      rw [HD.out] at hcl
      obtain ⟨s, hs⟩ : ∃ s, s = csum d := ⟨_, rfl⟩
      obtain ⟨fl, hfd⟩ : ∃ fl, fl = flat d := ⟨_, rfl⟩
      have hdg : digs d = fl ++ last s := by rw [hs, hfd]; rfl
      rw [htab, ← hfd] at Y
      rw [htk, ← hs]
      rw [← hfd] at hfl
      rw [← hs] at hcl
      obtain ⟨s1, hs1⟩ : ∃ n, n = s / 16 := ⟨_, rfl⟩
      obtain ⟨s2, hs2⟩ : ∃ n, n = s1 / 16 := ⟨_, rfl⟩
      obtain ⟨s3, hs3⟩ : ∃ n, n = s2 / 16 := ⟨_, rfl⟩
      obtain ⟨r0, hr0⟩ : ∃ n, n = s % 16 := ⟨_, rfl⟩
      obtain ⟨r1, hr1⟩ : ∃ n, n = s1 % 16 := ⟨_, rfl⟩
      obtain ⟨r2, hr2⟩ : ∃ n, n = s2 % 16 := ⟨_, rfl⟩
      have a1 : (s : Int) / 16 = (s1 : Int) := by omega
      have a2 : (s1 : Int) / 16 = (s2 : Int) := by omega
      have a3 : (s2 : Int) / 16 = (s3 : Int) := by omega
      have b0 : (s : Int) % 16 = (r0 : Int) := by omega
      have b1 : (s1 : Int) % 16 = (r1 : Int) := by omega
      have b2 : (s2 : Int) % 16 = (r2 : Int) := by omega
      have hlast : last s = [r2, r1, r0] := by
        unfold last
        have g1 : s / 256 = r2 := by omega
        have g2 : s / 16 % 16 = r1 := by omega
        rw [g1, g2, hr0]
      have HDG : Hid (digs d = fl ++ [r2, r1, r0]) := Lib.hid (by rw [hdg, hlast])
      have y1 : s ≤ 480 := by omega
      have y2 : s1 ≤ 30 := by omega
      have y3 : s2 ≤ 1 := by omega
      have y4 : s3 ≤ 1 := by omega
      have S0 : Hid ((fl ++ [0, 0, 0]).set 34 r0 = fl ++ [0, 0, r0]) := Lib.hid (by rw [List.set_append_right _ _ (by omega), hfl]; rfl)
      have S1 : Hid ((fl ++ [0, 0, r0]).set 33 r1 = fl ++ [0, r1, r0]) := Lib.hid (by rw [List.set_append_right _ _ (by omega), hfl]; rfl)
      have S2 : Hid ((fl ++ [0, r1, r0]).set 32 r2 = fl ++ [r2, r1, r0]) := Lib.hid (by rw [List.set_append_right _ _ (by omega), hfl]; rfl)
      clear hlast hdg hs hfd htab htk hcl hs1 hs2 hs3 hr0 hr1 hr2 hlt hk
      go_wp2
      go_loopw [4, 9] (fun cv iv wq => (iv = .int .i64 34 ∧ cv = .int .i64 (s : Int) ∧ Db w wq (fl ++ [0, 0, 0])) ∨ (iv = .int .i64 33 ∧ cv = .int .i64 (s1 : Int) ∧ Db w wq (fl ++ [0, 0, r0])) ∨ (iv = .int .i64 32 ∧ cv = .int .i64 (s2 : Int) ∧ Db w wq (fl ++ [0, r1, r0])) ∨ (iv = .int .i64 31 ∧ cv = .int .i64 (s3 : Int) ∧ Db w wq (fl ++ [r2, r1, r0]))) (fun _ iv _ => (intOf iv).toNat)
      case atStart => exact .inl ⟨rfl, rfl, Y⟩
      case round =>
      clear Y
      rcases hrel with hc | hc | hc | hc
      · obtain ⟨rfl, rfl, Y⟩ := hc
        obtain ⟨⟨q0, q1⟩, q2⟩ := Y.a.some_ (i := 34) (by omega)
        have HF : Hid (Db w (wr.setCell ⟨w.heap.size + 1, 34, none⟩ (.int .i64 (r0 : Int))) (fl ++ [0, 0, r0])) := Lib.hid (by
          rw [← S0.out]
          exact Y.set (by omega) r0)
        clear Y
        go_wp2
        go_roundw
        case rel => exact .inr (.inl ⟨rfl, rfl, HF.out⟩)
        case measure => simp [intOf]
      · obtain ⟨rfl, rfl, Y⟩ := hc
        obtain ⟨⟨q0, q1⟩, q2⟩ := Y.a.some_ (i := 33) (by omega)
        have HF : Hid (Db w (wr.setCell ⟨w.heap.size + 1, 33, none⟩ (.int .i64 (r1 : Int))) (fl ++ [0, r1, r0])) := Lib.hid (by
          rw [← S1.out]
          exact Y.set (by omega) r1)
        clear Y
        go_wp2
        go_roundw
        case rel => exact .inr (.inr (.inl ⟨rfl, rfl, HF.out⟩))
        case measure => simp [intOf]
      · obtain ⟨rfl, rfl, Y⟩ := hc
        obtain ⟨⟨q0, q1⟩, q2⟩ := Y.a.some_ (i := 32) (by omega)
        have HF : Hid (Db w (wr.setCell ⟨w.heap.size + 1, 32, none⟩ (.int .i64 (r2 : Int))) (fl ++ [r2, r1, r0])) := Lib.hid (by
          rw [← S2.out]
          exact Y.set (by omega) r2)
        clear Y
        go_wp2
        go_roundw
        case rel => exact .inr (.inr (.inr ⟨rfl, rfl, HF.out⟩))
        case measure => simp [intOf]
      · obtain ⟨rfl, rfl, Y⟩ := hc
        have HY := Lib.hid Y
        have hl : (fl ++ [r2, r1, r0]).length = 35 := by rw [List.length_append, hfl]; rfl
        have HL := Lib.hid hl
        clear Y hl
        go_wp2
        go_ret
        refine ⟨_, _, _, rfl, ⟨by rw [List.length_map, HDG.out, HL.out], by omega, by unfold maxLen; omega, fun _ => ⟨_, _, rfl⟩, fun _ => ⟨_, _, rfl, HY.out.a.size (by omega), fun j u hu => ?_⟩⟩, HY.out.z⟩
        rw [HDG.out] at hu
        rw [Nat.zero_add]
        exact (HY.out.a.at_ hu).1
end Wo
end Go.Proofs.YtmabbiemjeeicaaDoor

/- The reference of package wots: Digits, digest, start. Conditions: digests have 16 bytes, the seed at most 1000; the tables are laid. -/
namespace Go.Proofs.YtmabbiemjeeicaaDoor
open Go.RowKit
namespace Wo
open Mk (dv Dg GivesD dg_new dg_zero dg_end store_d load_d und_d info_d one_d info_dA)
open Wire (bv sv Lies enc Made)
open Hash (Table GivesT tabj bcj ofDig Arr)

theorem int_info : (Tryd.prog.info? 3).map (fun i => (i.zero, i.size, i.bytes)) = some (some (.int .i64 0), 1, 8) := by kernel_rfl
theorem fresh_many (w : World) (cs : List Value) (t : TypeId) : ∀ (j : Nat) (u : Value), cs[j]? = some u → (w.alloc (.cells cs.toArray t)).cell? ((⟨w.heap.size, 0, none⟩ : Addr).add j) = some u := by
  intro j u hu
  rw [Addr.add_mid]
  have h := (Hash.arr_new w cs.toArray t).cells j u (by simpa using hu)
  simpa using h
theorem one_n {l : List Nat} : ∀ u ∈ l.map nv, u.oneCell' = true := fun u hu => by
  obtain ⟨n, _, rfl⟩ := List.mem_map.1 hu; rfl

/-- The list so far is one's own, the digest lies below it. -/
structure Ro (w W : World) (d : List UInt8) (v : Value) (n : Nat) (l : List Nat) : Prop where
  p : Dg W w.heap.size d
  o : W.ownsRow (w.heap.size + 1) 3 1 v n (l.map nv)
  z : Below w.heap.size w W
theorem Ro.size {w W : World} {d : List UInt8} {v : Value} {n : Nat} {l : List Nat} (h : Ro w W d v n l) : w.heap.size + 1 ≤ W.heap.size := h.p.lt
theorem Ro.app {w W W' : World} {d : List UInt8} {v v' : Value} {n m : Nat} {l : List Nat} {cs : Array Value} {t : TypeId} {r : List Nat} (h : Ro w W d v n l)
    (ho : W'.ownsRow (w.heap.size + 1) 3 1 v' m (l.map nv ++ r.map nv)) (hg : (W.alloc (.cells cs t)).grownBy W' v.ownBlock) : Ro w W' d v' m (l ++ r) := by
  have hs := h.size
  have hb : Below (w.heap.size + 1) W W' := ((Below.refl _ _).alloc hs _).grown hg (by simp; omega) (fun q hq => (h.o.lt q hq).1)
  exact ⟨⟨h.p.arr.below hb (by omega)⟩, by rw [List.map_append]; exact ho, h.z.trans (hb.mono (by omega))⟩

set_option maxRecDepth 100000 in
set_option maxHeartbeats 1000000 in
theorem refDigits_any (d : List UInt8) (hd : d.length = 16) (w : World) : Calls Tryd.prog 14 #[dv d] w (GivesL (digs d) w) := by
  obtain ⟨i0, hi, hz0, hz1, hz2⟩ := info_parts int_info
  have P0 := dg_new w hd 23
  have R0 : Ro w (w.alloc (.cells (d.map bv).toArray 23)) d (.slice none 0 0) 0 [] := ⟨P0, World.ownsRow_nil _ _ _ _, Wire.b1 w _⟩
  have HD := Lib.hid hd
  clear hd P0
  unfold dv
  go_enter Tryd.func14, Tryd.ntmps14
  go_wp2
  go_loopw [3, 4, 5] (fun lv cv iv wr => ∃ (k : Nat), k ≤ 16 ∧ cv = .int .i64 (csum (d.take k) : Int) ∧ iv = .int .i64 (k : Int) ∧ Ro w wr d lv (2 * k) (flat (d.take k))) (fun _ _ iv _ => (16 - intOf iv).toNat)
  case atStart => exact ⟨0, by omega, rfl, rfl, R0⟩
  case round =>
    clear R0
    obtain ⟨k, hk, rfl, rfl, Y⟩ := hrel
    by_cases hlt : k < 16
    · obtain ⟨x, hx⟩ : ∃ x, d[k]? = some x := ⟨_, List.getElem?_eq_getElem (by rw [HD.out]; exact hlt)⟩
      have hcell := (Y.p.arr.at_ (i := k) (u := bv x) (by rw [List.getElem?_map, hx]; rfl)).1
      have z0 : (0 : Int) ≤ (k : Int) := by omega
      have z1 : (k : Int) < 16 := by omega
      have hfs := flat_snoc hx
      have hcs := csum_snoc hx
      have hcl := csum_le (d.take k)
      rw [List.length_take, HD.out] at hcl
      have hc2 : csum (d.take k) ≤ 480 := by omega
      have hxl := x.toNat_lt
      obtain ⟨hh, hhi⟩ : ∃ n, n = x.toNat / 16 := ⟨_, rfl⟩
      obtain ⟨lo, hlo⟩ : ∃ n, n = x.toNat % 16 := ⟨_, rfl⟩
      have e1 : (x.toNat : Int) / 16 = (hh : Int) := by omega
      have e2 : (x.toNat : Int) % 16 = (lo : Int) := by omega
      have l1 : hh ≤ 15 := by omega
      have l2 : lo ≤ 15 := by omega
      have hcs2 : csum (d.take (k + 1)) = csum (d.take k) + (30 - hh - lo) := by rw [hcs]; unfold lack; omega
      rw [← hhi, ← hlo] at hfs
      have HC := Lib.hid hcs2
      have HS := Lib.hid hfs
      generalize csum (d.take k) = c at hc2 HC
      generalize flat (d.take k) = fl at Y HS
      have HY := Lib.hid Y
      unfold bv at hcell
      clear hcs hfs hhi hlo hcs2 hcl hx hxl Y
      go_wp2_with (at_builtin; refine wpList_append_own _ rfl (.tmp 22) (.tmp 25) _ rfl (w.heap.size + 1) 3 i0 (.int .i64 0) 1 8 Tryd.underlying29 hi hz0 hz1 hz2 rfl (by decide) _ (2 * k) _ rfl (HY.out.o.alloc _) ⟨wr.heap.size, 0, none⟩ 2 2 ([hh, lo].map nv) rfl rfl (fresh_many wr ([hh, lo].map nv) _) one_n (by unfold maxLen; omega) (by omega) (by have := HY.out.size; simp; omega) ?_; intro v4 w4 ho4 hg4 _)
      go_roundw
      case rel =>
        refine ⟨k + 1, by omega, by rw [HC.out]; go_num, by go_num, ?_⟩
        rw [HS.out]
        exact HY.out.app ho4 hg4
      case measure => simp [intOf]; omega
    · have z1 : ¬ (k : Int) < 16 := by omega
      obtain rfl : k = 16 := by omega
      have hfl : (flat d).length = 32 := by rw [flat_length, HD.out]
      have htk : d.take 16 = d := List.take_of_length_le (by rw [HD.out]; omega)
      have hcl := csum_le d
      rw [HD.out] at hcl
      rw [htk] at Y ⊢
      obtain ⟨s, hs⟩ : ∃ s, s = csum d := ⟨_, rfl⟩
      obtain ⟨fl, hfd⟩ : ∃ fl, fl = flat d := ⟨_, rfl⟩
      have hdg : digs d = fl ++ last s := by rw [hs, hfd]; rfl
      rw [← hfd] at hfl Y
      rw [← hs] at hcl ⊢
      obtain ⟨s1, hs1⟩ : ∃ n, n = s / 16 := ⟨_, rfl⟩
      obtain ⟨r0, hr0⟩ : ∃ n, n = s % 16 := ⟨_, rfl⟩
      obtain ⟨r1, hr1⟩ : ∃ n, n = s1 % 16 := ⟨_, rfl⟩
      obtain ⟨r2, hr2⟩ : ∃ n, n = s / 256 := ⟨_, rfl⟩
      have a1 : (s : Int) / 16 = (s1 : Int) := by omega
      have a2 : (s : Int) / 256 = (r2 : Int) := by omega
      have b0 : (s : Int) % 16 = (r0 : Int) := by omega
      have b1 : (s1 : Int) % 16 = (r1 : Int) := by omega
      have hlast : last s = [r2, r1, r0] := by
        unfold last
        have g2 : s / 16 % 16 = r1 := by omega
        rw [g2, hr0, hr2]
      have HDG : Hid (digs d = fl ++ [r2, r1, r0]) := Lib.hid (by rw [hdg, hlast])
      have y1 : s ≤ 480 := by omega
      have y2 : s1 ≤ 30 := by omega
      have HY := Lib.hid Y
      clear hlast hdg hs hfd htk hcl hs1 hr0 hr1 hr2 hlt hk Y
      go_wp2_with (at_builtin; refine wpList_append_own _ rfl (.tmp 33) (.tmp 41) _ rfl (w.heap.size + 1) 3 i0 (.int .i64 0) 1 8 Tryd.underlying29 hi hz0 hz1 hz2 rfl (by decide) _ (2 * 16) _ rfl (HY.out.o.alloc _) ⟨wr.heap.size, 0, none⟩ 3 3 ([r2, r1, r0].map nv) rfl rfl (fresh_many wr ([r2, r1, r0].map nv) _) one_n (by unfold maxLen; omega) (by omega) (by have := HY.out.size; simp; omega) ?_; intro v4 w4 ho4 hg4 _)
      have HF := HY.out.app ho4 hg4
      obtain ⟨g, c, rfl, -⟩ := Wire.own_form HF.o (by omega)
      have HL := Lib.hid (Wire.lies_own HF.o)
      have HZ := HF.z
      clear HF ho4 hg4
      go_ret
      exact ⟨_, _, _, rfl, by rw [HDG.out]; exact HL.out, HZ⟩
end Wo
end Go.Proofs.YtmabbiemjeeicaaDoor

